package scene_test

import (
	"fmt"
	"math"
	"slices"
	"testing"

	"rayhouse/api"
	"rayhouse/scene"
)

// die: numbers that look drawn, the same each time.
type die uint64

func (d *die) n(most int) int {
	*d = *d*6364136223846793005 + 1442695040888963407
	return int(uint64(*d>>33) % uint64(most))
}

var (
	minus0 = math.Copysign(0, -1)
	inf    = math.Inf(1)
	none   = math.NaN()
	beyond = math.Nextafter(api.MaxReach, inf)
	tiny   = math.SmallestNonzeroFloat64
)

func v(x, y, z float64) api.Vec {
	return api.Vec{X: x, Y: y, Z: z}
}

// told: all of a scene, bit by bit (a nought's sign, too); no list and an empty one are the same.
func told(s api.Scene) string {
	return fmt.Sprintf("%+v", s)
}

func empty(s api.Scene) bool {
	return told(s) == told(api.Scene{})
}

// copied: a scene that shares nothing with s.
func copied(s api.Scene) api.Scene {
	s.Shapes, s.Skins, s.Lamps = slices.Clone(s.Shapes), slices.Clone(s.Skins), slices.Clone(s.Lamps)
	s.Solids, s.Fields = slices.Clone(s.Solids), slices.Clone(s.Fields)
	for i := range s.Solids {
		s.Solids[i].Parts = slices.Clone(s.Solids[i].Parts)
	}
	for i := range s.Fields {
		s.Fields[i].High = slices.Clone(s.Fields[i].High)
	}
	return s
}

func skinOf(spread, mirror, glass, bend int) api.Skin {
	return api.Skin{Spread: [3]int{spread, spread, spread}, Mirror: [3]int{mirror, mirror, mirror}, Glass: [3]int{glass, glass, glass}, Bend: bend}
}

func eye() api.Eye {
	return api.Eye{At: v(0, 1, -5), Up: v(0, 1, 0), Wide: 1.5}
}

func ball() api.Shape {
	return api.Shape{Kind: api.Ball, A: v(1, 2, 3), R: 0.5}
}

func block() api.Shape {
	return api.Shape{Kind: api.Block, A: v(-1, -2, -3), B: v(1, 0.25, 3)}
}

func tube() api.Shape {
	return api.Shape{Kind: api.Tube, A: v(0, 0, -2), B: v(0, 0, 4.125), R: 0.25}
}

// shapes: one of each kind.
func shapes() []api.Shape {
	return []api.Shape{
		ball(), block(),
		{Kind: api.Tri, A: v(1, 2, 3), B: v(-4.5, 5, 6), C: v(7, -8, 9.999)},
		{Kind: api.Plate, A: v(0, -1, 0), B: v(0.001, 1, -1), R: 6},
		tube(),
		{Kind: api.Ring, A: v(5, 5, 5), B: v(0, -2, 0), R: 2, Q: 0.75},
	}
}

func leaf(s api.Shape) api.Part {
	return api.Part{Shape: s}
}

func made(op, left, right int) api.Part {
	return api.Part{Op: op, Left: left, Right: right}
}

// body: less { both { ball block } either { tube ball } }.
func body() api.Solid {
	return api.Solid{Parts: []api.Part{leaf(ball()), leaf(block()), made(api.Both, 0, 1), leaf(tube()), leaf(ball()), made(api.Either, 3, 4), made(api.Less, 2, 5)}}
}

func grid() api.Field {
	return api.Field{W: 3, H: 2, At: v(-1, 0, 1), Side: 0.5, High: []int{0, 1500, -20, 3, -1000000, 1000000}}
}

// full: a scene with all kinds of things.
func full() api.Scene {
	s := api.Scene{
		Shapes: shapes(),
		Solids: []api.Solid{{Parts: []api.Part{leaf(tube())}, Skin: 1}, body()},
		Fields: []api.Field{grid()},
		Skins:  []api.Skin{skinOf(1000, 0, 0, 100), skinOf(1, 2, 3, 1333), skinOf(0, 0, 1000, 10000)},
		Lamps:  []api.Lamp{{At: v(1, 2, 3), Light: [3]int{0, 1, api.Full}}, {}},
		Sky:    [3]int{1, api.Full, 0},
		Eye:    eye(),
	}
	for i := range s.Shapes {
		s.Shapes[i].Skin = i % 3
	}
	return s
}

// N1

func TestMaySkin(t *testing.T) {
	for _, k := range []api.Skin{
		skinOf(0, 0, 0, 100), skinOf(0, 0, 0, 10000), skinOf(1000, 0, 0, 1000), skinOf(0, 1000, 0, 1000), skinOf(0, 0, 1000, 1000), skinOf(300, 300, 400, 101),
		{Spread: [3]int{1000, 0, 0}, Mirror: [3]int{0, 1000, 0}, Glass: [3]int{0, 0, 1000}, Bend: 1500},
	} {
		if e := scene.MaySkin(k); e != api.OK {
			t.Errorf("%v: %d", k, e)
		}
	}
	bad := []api.Skin{
		skinOf(0, 0, 0, 99), skinOf(0, 0, 0, 10001), skinOf(0, 0, 0, 0), skinOf(0, 0, 0, -100), skinOf(0, 0, 0, math.MaxInt), skinOf(0, 0, 0, math.MinInt), {},
		skinOf(300, 300, 401, 1000), skinOf(334, 333, 334, 1000), skinOf(1001, 0, 0, 1000), skinOf(0, 1001, 0, 1000), skinOf(0, 0, 1001, 1000),
		skinOf(-1, 0, 0, 1000), skinOf(0, -1, 0, 1000), skinOf(0, 0, -1, 1000), skinOf(-1, 1001, 0, 1000), skinOf(1001, -1, 0, 1000), skinOf(500, 600, -100, 1000),
		skinOf(math.MaxInt, math.MaxInt, 2, 1000), skinOf(math.MinInt, math.MinInt, 0, 1000), skinOf(math.MaxInt, 1, math.MinInt, 1000),
	}
	for c := range 3 {
		for _, three := range [][3]int{{1001, 0, 0}, {0, 1001, 0}, {0, 0, -1}, {1, 500, 500}} {
			k := skinOf(0, 0, 0, 1000)
			k.Spread[c], k.Mirror[c], k.Glass[c] = three[0], three[1], three[2]
			bad = append(bad, k)
		}
	}
	for _, k := range bad {
		if e := scene.MaySkin(k); e != api.ErrValue {
			t.Errorf("%v: %d", k, e)
		}
	}
}

func TestMayEye(t *testing.T) {
	with := func(at, to, up api.Vec, wide float64) api.Eye {
		return api.Eye{At: at, To: to, Up: up, Wide: wide}
	}
	o, y, z := v(0, 0, 0), v(0, 1, 0), v(0, 0, 1)
	far := v(api.MaxReach, 0, 0)
	for _, c := range []struct {
		e    api.Eye
		want api.Errno
	}{
		{eye(), api.OK}, {with(o, z, y, 1), api.OK}, {with(o, z, y, tiny), api.OK}, {with(o, far, y, api.MaxReach), api.OK}, {with(far, o, y, 1), api.OK},
		{with(o, z, v(0, 1e-9, 5), 1), api.OK}, {with(o, v(0, 0, 1e-100), y, 1), api.OK}, {with(o, z, v(api.MaxReach, -api.MaxReach, api.MaxReach), 1), api.OK},
		{with(v(none, 0, 0), z, y, 1), api.ErrReach}, {with(o, v(0, inf, 0), y, 1), api.ErrReach}, {with(o, z, v(0, 1, -inf), 1), api.ErrReach},
		{with(v(0, beyond, 0), z, y, 1), api.ErrReach}, {with(o, v(0, 0, -beyond), y, 1), api.ErrReach}, {with(o, z, v(beyond, 0, 0), 1), api.ErrReach},
		{with(o, z, y, none), api.ErrReach}, {with(o, z, y, inf), api.ErrReach}, {with(o, z, y, beyond), api.ErrReach}, {with(o, z, y, -beyond), api.ErrReach},
		{with(v(none, 0, 0), z, y, -1), api.ErrReach}, {with(o, z, v(0, none, 0), 0), api.ErrReach},
		{with(o, z, y, 0), api.ErrValue}, {with(o, z, y, minus0), api.ErrValue}, {with(o, z, y, -1), api.ErrValue}, {with(o, o, y, 0), api.ErrValue}, {with(far, vecTimes(far, -1), y, -tiny), api.ErrValue}, {api.Eye{}, api.ErrValue},
		{with(far, vecTimes(far, -1), y, 1), api.ErrReach}, {with(far, vecTimes(far, -1), o, 1), api.ErrReach}, {with(far, v(-1e-3, 0, 0), y, 1), api.ErrReach},
		{with(o, o, y, 1), api.ErrZero}, {with(z, z, y, 1), api.ErrZero}, {with(o, v(tiny, 0, 0), y, 1), api.ErrZero},
		{with(o, z, z, 1), api.ErrZero}, {with(o, z, v(0, 0, -3), 1), api.ErrZero}, {with(o, z, o, 1), api.ErrZero}, {with(v(0, 5, 0), o, y, 1), api.ErrZero}, {with(o, z, v(0, tiny, 1), 1), api.ErrZero},
	} {
		if e := scene.MayEye(c.e); e != c.want {
			t.Errorf("%+v: %d, not %d", c.e, e, c.want)
		}
	}
}

func vecTimes(a api.Vec, k float64) api.Vec {
	return v(a.X*k, a.Y*k, a.Z*k)
}

// N2

// change: what is done to a full scene, and what is said of it then.
type change struct {
	what string
	do   func(*api.Scene)
	want api.Errno
}

// changes: in the order in which May tells the errors, so that of two changes the first one's error is told.
func changes() []change {
	return []change{
		{"65 shapes", func(s *api.Scene) { s.Shapes = slices.Repeat([]api.Shape{ball()}, api.MaxShapes+1) }, api.ErrLimit},
		{"9 solids", func(s *api.Scene) { s.Solids = slices.Repeat([]api.Solid{body()}, api.MaxSolids+1) }, api.ErrLimit},
		{"3 fields", func(s *api.Scene) { s.Fields = slices.Repeat([]api.Field{grid()}, api.MaxFields+1) }, api.ErrLimit},
		{"17 skins", func(s *api.Scene) { s.Skins = slices.Repeat([]api.Skin{skinOf(0, 0, 0, 1000)}, api.MaxSkins+1) }, api.ErrLimit},
		{"5 lamps", func(s *api.Scene) { s.Lamps = slices.Repeat([]api.Lamp{{}}, api.MaxLamps+1) }, api.ErrLimit},
		{"a skin", func(s *api.Scene) { s.Skins[1].Bend = 99 }, api.ErrValue},
		{"a last skin", func(s *api.Scene) { s.Skins[len(s.Skins)-1].Glass[2] = 1001 }, api.ErrValue},
		{"a shape's reach", func(s *api.Scene) { s.Shapes[0].A.X = none }, api.ErrReach},
		{"a shape without its skin", func(s *api.Scene) { s.Shapes[1].Skin = len(s.Skins) }, api.ErrName},
		{"a shape's kind", func(s *api.Scene) { s.Shapes[2].Kind = 7 }, api.ErrKind},
		{"a shape's radius", func(s *api.Scene) { s.Shapes[4].R = 0 }, api.ErrValue},
		{"a shape's skin", func(s *api.Scene) { s.Shapes[5].Skin = -1 }, api.ErrLimit},
		{"a solid's parts", func(s *api.Scene) { s.Solids[0].Parts = nil }, api.ErrCount},
		{"a solid's op", func(s *api.Scene) { s.Solids[1].Parts[2].Op = 4 }, api.ErrForm},
		{"a solid without its skin", func(s *api.Scene) { s.Solids[1].Skin = len(s.Skins) }, api.ErrName},
		{"a field's width", func(s *api.Scene) { s.Fields[0].W = 1 }, api.ErrLimit},
		{"a field's heights", func(s *api.Scene) { s.Fields[0].High = s.Fields[0].High[1:] }, api.ErrCount},
		{"a field without its skin", func(s *api.Scene) { s.Fields[0].Skin = len(s.Skins) }, api.ErrName},
		{"a lamp's place", func(s *api.Scene) { s.Lamps[0].At.Z = beyond }, api.ErrReach},
		{"a lamp's light", func(s *api.Scene) { s.Lamps[0].Light[2] = api.Full + 1 }, api.ErrValue},
		{"a last lamp's place", func(s *api.Scene) { s.Lamps[len(s.Lamps)-1].At.X = -inf }, api.ErrReach},
		{"a last lamp's light", func(s *api.Scene) { s.Lamps[len(s.Lamps)-1].Light[0] = -1 }, api.ErrValue},
		{"a sky", func(s *api.Scene) { s.Sky[1] = -1 }, api.ErrValue},
		{"an eye's reach", func(s *api.Scene) { s.Eye.Up.X = none }, api.ErrReach},
		{"an eye that sees nothing", func(s *api.Scene) { s.Eye.Wide = 0 }, api.ErrValue},
		{"an eye that looks nowhere", func(s *api.Scene) { s.Eye.To = s.Eye.At }, api.ErrZero},
	}
}

func holdMay(t *testing.T, what string, s api.Scene, want api.Errno) {
	t.Helper()
	before := told(s)
	if e := scene.May(s); e != want {
		t.Errorf("%s: %d, not %d", what, e, want)
	}
	if told(s) != before {
		t.Errorf("%s: May wrote into the scene", what)
	}
}

func TestMayOfWhatMayBe(t *testing.T) {
	holdMay(t, "full", full(), api.OK)
	holdMay(t, "only an eye", api.Scene{Eye: eye()}, api.OK)
	holdMay(t, "nothing", api.Scene{}, api.ErrValue)
	s := full()
	s.Shapes = slices.Repeat([]api.Shape{ball()}, api.MaxShapes)
	s.Solids = slices.Repeat([]api.Solid{body()}, api.MaxSolids)
	s.Fields = slices.Repeat([]api.Field{grid()}, api.MaxFields)
	s.Skins = slices.Repeat([]api.Skin{skinOf(0, 0, 0, 1000)}, api.MaxSkins)
	s.Lamps = slices.Repeat([]api.Lamp{{At: v(api.MaxReach, -api.MaxReach, 0), Light: [3]int{api.Full, api.Full, api.Full}}}, api.MaxLamps)
	s.Sky = [3]int{api.Full, api.Full, api.Full}
	s.Shapes[63].Skin, s.Solids[7].Skin, s.Fields[1].Skin = 15, 15, 15
	holdMay(t, "as many as may be", s, api.OK)
}

func TestMayOfOneFault(t *testing.T) {
	for _, c := range changes() {
		s := copied(full())
		c.do(&s)
		holdMay(t, c.what, s, c.want)
	}
	two := full()
	two.Fields = append(two.Fields, grid())
	two.Fields[1].Side = 0
	holdMay(t, "a last field", two, api.ErrValue)
	for i := range 3 {
		for _, n := range []int{-1, api.Full + 1, math.MaxInt, math.MinInt} {
			s := full()
			s.Sky[i] = n
			holdMay(t, "sky", s, api.ErrValue)
			s = full()
			s.Lamps[1].Light[i] = n
			holdMay(t, "lamp", s, api.ErrValue)
		}
	}
}

// Of two faults the one that is named first is told.
func TestMayOfTwoFaults(t *testing.T) {
	l := changes()
	for i, first := range l {
		for _, second := range l[i+1:] {
			s := copied(full())
			second.do(&s)
			if stillThere(s) {
				first.do(&s)
				holdMay(t, first.what+" and "+second.what, s, first.want)
			}
		}
	}
}

// stillThere: whether a scene has all that a change asks for.
func stillThere(s api.Scene) bool {
	return len(s.Shapes) >= 6 && len(s.Solids) >= 2 && len(s.Fields) >= 1 && len(s.Solids[1].Parts) >= 3 && len(s.Fields[0].High) > 0
}

func TestMayOfThingsWithoutAnySkin(t *testing.T) {
	holdMay(t, "shape", api.Scene{Shapes: []api.Shape{ball()}, Eye: eye()}, api.ErrName)
	holdMay(t, "solid", api.Scene{Solids: []api.Solid{body()}, Eye: eye()}, api.ErrName)
	holdMay(t, "field", api.Scene{Fields: []api.Field{grid()}, Eye: eye()}, api.ErrName)
	holdMay(t, "lamp", api.Scene{Lamps: []api.Lamp{{}}, Eye: eye()}, api.OK)
	// The skin of a leaf is nobody's: that of the solid is asked for.
	s := api.Scene{Solids: []api.Solid{body()}, Skins: []api.Skin{skinOf(0, 0, 0, 1000)}, Eye: eye()}
	s.Solids[0].Parts[0].Shape.Skin = 9
	holdMay(t, "leaf", s, api.OK)
}
