package reel_test

import (
	"math"
	"reflect"
	"slices"
	"testing"

	"rayhouse/api"
	"rayhouse/reel"
	"rayhouse/scene"
)

// sample: a scene with a shape of each kind, in their order, whose numbers are no thousandths; and with all else that a scene may have. The fields that a kind doesn't tell of are not 0.
func sample() api.Scene {
	a, b, c := api.Vec{X: 0.1, Y: -2.3456789, Z: 1.0 / 3}, api.Vec{X: 7.7, Y: 3.3333, Z: 11.1}, api.Vec{X: -5.55, Y: 0.07, Z: -1.0 / 7}
	axis := api.Vec{Y: -1.1}
	ball := api.Shape{Kind: api.Ball, A: a, R: 0.75}
	hole := api.Shape{Kind: api.Tube, A: c, B: api.Vec{Z: 2}, R: 0.25}
	return api.Scene{
		Shapes: []api.Shape{
			{Kind: api.Ball, A: a, B: b, C: c, R: 0.7, Q: 0.3, Skin: 1},
			{Kind: api.Block, A: a, B: b, C: c, R: 0.7, Q: 0.3, Skin: 1},
			{Kind: api.Tri, A: a, B: b, C: c, R: 0.7, Q: 0.3},
			{Kind: api.Plate, A: a, B: b, C: c, R: 0.7, Q: 0.3, Skin: 1},
			{Kind: api.Tube, A: a, B: axis, C: c, R: 0.7, Q: 0.3},
			{Kind: api.Ring, A: a, B: axis, C: c, R: 0.7, Q: 0.3, Skin: 1},
		},
		Solids: []api.Solid{
			{Parts: []api.Part{{Shape: ball}, {Shape: hole}, {Op: api.Less, Right: 1}}, Skin: 1},
			{Parts: []api.Part{{Shape: hole}}},
		},
		Fields: []api.Field{
			{W: 2, H: 2, At: b, Side: 1.5, High: []int{1, 2, 3, 4}},
			{W: 3, H: 2, At: c, Side: 0.5, High: []int{9, 8, 7, -6, 5, 4}, Skin: 1},
		},
		Skins: []api.Skin{{Spread: [3]int{1, 2, 3}, Bend: 1000}, {Mirror: [3]int{4, 5, 6}, Glass: [3]int{7, 8, 9}, Bend: 1500}},
		Lamps: []api.Lamp{{At: b, Light: [3]int{10, 20, 30}}, {At: c, Light: [3]int{api.Full, 0, 1}}},
		Sky:   [3]int{40, 50, 60},
		Eye:   api.Eye{At: api.Vec{Z: -5}, Up: api.Vec{Y: 1}, Wide: 1.25},
	}
}

// still: a key that is always there.
func still(x, y, z int) []api.Key {
	return []api.Key{{At: [3]int{x, y, z}}}
}

// numbers: those of a shape, in their order, bit by bit.
func numbers(s api.Shape) (bits [11]uint64) {
	for i, x := range []float64{s.A.X, s.A.Y, s.A.Z, s.B.X, s.B.Y, s.B.Z, s.C.X, s.C.Y, s.C.Z, s.R, s.Q} {
		bits[i] = math.Float64bits(x)
	}
	return bits
}

// points: how many of the three points of a kind are places.
var points = [...]int{api.Ball: 1, api.Block: 2, api.Tri: 3, api.Plate: 1, api.Tube: 1, api.Ring: 1}

// secondMoved: the numbers of a shape that has gone on.
func secondMoved(s api.Shape, at [3]int) [11]uint64 {
	bits := numbers(s)
	for i := range 3 * points[s.Kind] {
		bits[i] = math.Float64bits(math.Float64frombits(bits[i]) + float64(at[i%3])/1000)
	}
	return bits
}

func moved(t *testing.T, s api.Scene, which int, keys []api.Key, time int) api.Scene {
	t.Helper()
	m, e := reel.Moved(s, which, keys, time)
	if e != api.OK {
		t.Fatalf("Moved of %d: %d", which, e)
	}
	return m
}

// holdMoved: a shape that has gone on, number by number; and all else as it was.
func holdMoved(t *testing.T, s api.Scene, which int, keys []api.Key, time int) {
	t.Helper()
	at, _ := reel.At(keys, time)
	m := moved(t, s, which, keys, time)
	was, is := s.Shapes[which], m.Shapes[which]
	if numbers(is) != secondMoved(was, at) || is.Kind != was.Kind || is.Skin != was.Skin {
		t.Fatalf("%v, moved by %v: %v", was, at, is)
	}
	m.Shapes[which] = was
	if !reflect.DeepEqual(m, s) {
		t.Fatalf("the shape %d of %v moved: all else is %v", which, s, m)
	}
}

func empty(s api.Scene) bool {
	lists := len(s.Shapes) + len(s.Solids) + len(s.Fields) + len(s.Skins) + len(s.Lamps)
	return lists == 0 && s.Sky == [3]int{} && s.Eye == api.Eye{}
}

// K2

func TestEachKindMoves(t *testing.T) {
	s := sample()
	if e := scene.May(s); e != api.OK {
		t.Fatalf("the sample may not be: %d", e)
	}
	d := die(11)
	for which := range s.Shapes {
		for _, keys := range [][]api.Key{still(0, 0, 0), still(1, 0, 0), still(0, 1, 0), still(0, 0, 1), still(-1, 10, -100), still(api.MaxWhole, -api.MaxWhole, 333), still(700, -300, 100)} {
			holdMoved(t, s, which, keys, 0)
		}
		for range 60 {
			keys := d.keys(1+d.n(5), 9, 1+d.n(api.MaxWhole))
			holdMoved(t, s, which, keys, d.n(60)-5)
		}
	}
}

// A shape of each kind, with numbers that are known.
func TestMovedByKnownNumbers(t *testing.T) {
	s := sample()
	for i := range s.Shapes {
		s.Shapes[i].A, s.Shapes[i].C = api.Vec{X: 1, Y: 2, Z: 3}, api.Vec{X: 8, Y: -8, Z: 16}
		if s.Shapes[i].Kind <= api.Plate {
			s.Shapes[i].B = api.Vec{X: 4, Y: 5, Z: 6}
		}
	}
	keys := []api.Key{{Time: 10}, {Time: 20, At: [3]int{1000, -3000, 5001}}}
	// Half of the way: 0.5, -1.5, 2.501 (2500.5 thousandths, halves up). A variable, since Go adds constants without rounding.
	z := 2.501
	for which, x := range s.Shapes {
		want := x
		want.A = api.Vec{X: 1.5, Y: 0.5, Z: 3 + z}
		if x.Kind == api.Block || x.Kind == api.Tri {
			want.B = api.Vec{X: 4.5, Y: 3.5, Z: 6 + z}
		}
		if x.Kind == api.Tri {
			want.C = api.Vec{X: 8.5, Y: -9.5, Z: 16 + z}
		}
		if got := moved(t, s, which, keys, 15).Shapes[which]; got != want {
			t.Errorf("%v moved: %v, not %v", x, got, want)
		}
	}
}

// A sum of floats: what becomes of a nought with a sign, and of a number that is no thousandth.
func TestMovedIsASumOfFloats(t *testing.T) {
	s := sample()
	nought := math.Copysign(0, -1)
	s.Shapes[0].A = api.Vec{X: nought, Y: 0.3, Z: 1e-300}
	m := moved(t, s, 0, still(0, -100, 1), 0).Shapes[0].A
	if math.Signbit(m.X) || m.X != 0 {
		t.Errorf("-0 and 0: %v", m.X)
	}
	y, z := 0.3, 1e-300
	y += -0.1
	z += 0.001
	if m.Y != y || m.Z != z {
		t.Errorf("0.3 less 0.1, and 1e-300 and 0.001: %v, %v", m.Y, m.Z)
	}
	holdMoved(t, s, 0, still(0, -100, 1), 0)
}

// far: scenes with one shape each whose outmost number, along the axis i and away from 0, is as told.
func far(i int, sign, most float64) (all []api.Scene) {
	at := func(n float64) (v api.Vec) {
		*[3]*float64{&v.X, &v.Y, &v.Z}[i] = sign * n
		return v
	}
	lo, hi := api.Vec{}, at(most)
	if sign < 0 {
		lo, hi = hi, lo
	}
	across := api.Vec{X: 1}
	if i == 0 {
		across = api.Vec{Y: 1}
	}
	for _, x := range []api.Shape{
		{Kind: api.Ball, A: at(most - 2), R: 2},
		{Kind: api.Block, A: lo, B: hi},
		{Kind: api.Tri, A: at(most), B: api.Vec{X: 1}, C: api.Vec{Y: 1}},
		{Kind: api.Tri, A: api.Vec{X: 1}, B: at(most), C: api.Vec{Y: 1}},
		{Kind: api.Tri, A: api.Vec{X: 1}, B: api.Vec{Y: 1}, C: at(most)},
		{Kind: api.Plate, A: at(most - 2), B: api.Vec{X: 1, Y: 2, Z: 3}, R: 2},
		{Kind: api.Tube, A: at(most - 4), B: at(4), R: 2},
		{Kind: api.Tube, A: at(most - 2), B: across, R: 2},
		{Kind: api.Ring, A: at(most - 1), B: at(5), R: 2, Q: 1},
		{Kind: api.Ring, A: at(most - 3), B: across, R: 2, Q: 1},
	} {
		s := sample()
		s.Shapes = []api.Shape{x}
		all = append(all, s)
	}
	return all
}

// All that a key can move a shape, up to the edge of what may be, and beyond it.
func TestMovedToTheEdge(t *testing.T) {
	const most = api.MaxReach - api.MaxWhole/1000
	for i := range 3 {
		for _, sign := range []float64{1, -1} {
			var at [3]int
			at[i] = int(sign) * api.MaxWhole
			keys := still(at[0], at[1], at[2])
			for _, s := range far(i, sign, most) {
				holdMoved(t, s, 0, keys, 0)
			}
			for _, s := range far(i, sign, most+0.001) {
				if m, e := reel.Moved(s, 0, keys, 0); e != api.ErrReach || !empty(m) {
					t.Errorf("%v, moved beyond along %d: %v, %d", s.Shapes[0], i, m, e)
				}
				keys := still(at[0]/2, at[1]/2, at[2]/2)
				holdMoved(t, s, 0, keys, 0)
			}
		}
	}
}

func TestWhichShape(t *testing.T) {
	s := sample()
	last := len(s.Shapes) - 1
	for _, which := range []int{-1, last + 1, last + 2, math.MinInt, math.MaxInt, 1 << 32} {
		if m, e := reel.Moved(s, which, still(1, 1, 1), 0); e != api.ErrName || !empty(m) {
			t.Errorf("Moved of the shape %d: %v, %d", which, m, e)
		}
	}
	holdMoved(t, s, 0, still(1, 1, 1), 0)
	holdMoved(t, s, last, still(1, 1, 1), 0)
	s.Shapes = nil
	for _, which := range []int{-1, 0, 1} {
		if m, e := reel.Moved(s, which, still(1, 1, 1), 0); e != api.ErrName || !empty(m) {
			t.Errorf("Moved of the shape %d of none: %v, %d", which, m, e)
		}
	}
	s = sample()
	s.Shapes = slices.Repeat(s.Shapes[:1], api.MaxShapes)
	holdMoved(t, s, api.MaxShapes-1, still(5, 6, 7), 0)
}

// refusals: scenes that may not be, each for another reason.
func refusals() []api.Scene {
	var all []api.Scene
	for _, change := range []func(*api.Scene){
		func(s *api.Scene) { s.Shapes = slices.Repeat(s.Shapes[:1], api.MaxShapes+1) },
		func(s *api.Scene) { s.Skins[1].Bend = 0 },
		func(s *api.Scene) { s.Shapes[2].Kind = 7 },
		func(s *api.Scene) { s.Shapes[3].B = api.Vec{} },
		func(s *api.Scene) { s.Shapes[0].Skin = 2 },
		func(s *api.Scene) { s.Solids[0].Parts = nil },
		func(s *api.Scene) { s.Fields[0].High = nil },
		func(s *api.Scene) { s.Lamps[0].At.X = math.NaN() },
		func(s *api.Scene) { s.Sky[2] = -1 },
		func(s *api.Scene) { s.Eye = api.Eye{} },
	} {
		s := sample()
		change(&s)
		all = append(all, s)
	}
	return append(all, api.Scene{})
}

// What is said of the scene is told ahead of the shape's number, that ahead of what is said of the keys, that ahead of where the shape comes.
func TestTheOrderOfErrors(t *testing.T) {
	wrongKeys := [][]api.Key{nil, {{Time: -1}}, {{At: [3]int{api.MaxWhole + 1, 0, 0}}}, even(api.MaxFrames + 1)}
	for i, s := range refusals() {
		want := scene.May(s)
		if want == api.OK {
			t.Fatalf("the scene %d may be: the test tells nothing", i)
		}
		for _, which := range []int{-1, 0, 99} {
			for _, keys := range append(wrongKeys, still(1, 2, 3)) {
				if m, e := reel.Moved(s, which, keys, 0); e != want || !empty(m) {
					t.Errorf("Moved of the scene %d, %d, %v: %v, %d, not %d", i, which, keys, m, e, want)
				}
			}
		}
	}
	s := far(0, 1, api.MaxReach)[0]
	for _, keys := range wrongKeys {
		if m, e := reel.Moved(s, 1, keys, 0); e != api.ErrName || !empty(m) {
			t.Errorf("Moved of no shape, by %v: %v, %d", keys, m, e)
		}
		if m, e := reel.Moved(s, 0, keys, 0); e != reel.May(keys) || e == api.OK || !empty(m) {
			t.Errorf("Moved by %v: %v, %d", keys, m, e)
		}
	}
	if m, e := reel.Moved(s, 0, still(1, 0, 0), 0); e != api.ErrReach || !empty(m) {
		t.Errorf("Moved too far: %v, %d", m, e)
	}
	if m, e := reel.Moved(s, 1, still(1, 0, 0), 0); e != api.ErrName || !empty(m) {
		t.Errorf("Moved of no shape, too far: %v, %d", m, e)
	}
}

// scribble: writes into all that a scene has, up to the room that its lists have beyond.
func scribble(s api.Scene) {
	for i := range s.Solids {
		parts := s.Solids[i].Parts
		for k := range parts[:cap(parts)] {
			parts[:cap(parts)][k].Shape.A.X = 77
		}
	}
	for i := range s.Fields {
		high := s.Fields[i].High
		for k := range high[:cap(high)] {
			high[:cap(high)][k] = 77
		}
	}
	for i := range s.Shapes[:cap(s.Shapes)] {
		s.Shapes[:cap(s.Shapes)][i].R = 77
	}
	for i := range s.Skins[:cap(s.Skins)] {
		s.Skins[:cap(s.Skins)][i].Bend = 77
	}
	for i := range s.Lamps[:cap(s.Lamps)] {
		s.Lamps[:cap(s.Lamps)][i].Light[0] = 77
	}
	for i := range s.Solids[:cap(s.Solids)] {
		s.Solids[:cap(s.Solids)][i] = api.Solid{Skin: 77}
	}
	for i := range s.Fields[:cap(s.Fields)] {
		s.Fields[:cap(s.Fields)][i] = api.Field{Skin: 77}
	}
}

// shared: a scene whose lists stand in one row, each with room beyond it.
func shared() api.Scene {
	s := sample()
	parts := slices.Concat(s.Solids[0].Parts, s.Solids[1].Parts)
	cut := len(s.Solids[0].Parts)
	s.Solids[0].Parts, s.Solids[1].Parts = parts[:cut], parts[cut:]
	high := slices.Concat(s.Fields[0].High, s.Fields[1].High)
	cut = len(s.Fields[0].High)
	s.Fields[0].High, s.Fields[1].High = high[:cut], high[cut:]
	s.Shapes = append(s.Shapes, s.Shapes...)[:len(s.Shapes)]
	return s
}

func TestMovedSharesNothing(t *testing.T) {
	for which := range sample().Shapes {
		s := shared()
		m := moved(t, s, which, still(1000, 0, 0), 0)
		if !reflect.DeepEqual(s, shared()) || !reflect.DeepEqual(s.Shapes[:cap(s.Shapes)], shared().Shapes[:cap(s.Shapes)]) {
			t.Errorf("the scene was written into: %v", s)
		}
		again := moved(t, s, which, still(1000, 0, 0), 0)
		scribble(m)
		if !reflect.DeepEqual(s, shared()) {
			t.Errorf("what came out shares something with what was handed in: %v", s)
		}
		scribble(s)
		if !reflect.DeepEqual(again, moved(t, shared(), which, still(1000, 0, 0), 0)) {
			t.Errorf("what came out earlier became %v", again)
		}
	}
	// No two lists of one answer share any, either.
	m := moved(t, shared(), 0, still(1000, 0, 0), 0)
	_ = append(m.Solids[0].Parts, api.Part{Op: 77})
	_ = append(m.Fields[0].High, 77)
	if !reflect.DeepEqual(m, moved(t, shared(), 0, still(1000, 0, 0), 0)) {
		t.Errorf("a longer list was written into another one: %v", m)
	}
}

// A refused move leaves what was handed in as it was, too.
func TestRefusedMovesWriteNothing(t *testing.T) {
	for i, s := range far(2, 1, api.MaxReach) {
		reel.Moved(s, 0, still(0, 0, 1), 0)
		if !reflect.DeepEqual(s, far(2, 1, api.MaxReach)[i]) {
			t.Errorf("the scene %d became %v", i, s)
		}
	}
}
