package bounce_test

import (
	"fmt"
	"math"
	"slices"
	"sync"
	"testing"

	"rayhouse/api"
	"rayhouse/bounce"
	"rayhouse/chance"
	"rayhouse/scene"
)

var (
	minus0 = math.Copysign(0, -1)
	inf    = math.Inf(1)
	none   = math.NaN()
	beyond = math.Nextafter(api.MaxReach, inf)
	tiny   = math.Nextafter(1/api.MaxReach, 0)
)

func v(x, y, z float64) api.Vec {
	return api.Vec{X: x, Y: y, Z: z}
}

func ray(from, dir api.Vec) api.Ray {
	return api.Ray{From: from, Dir: dir}
}

// grey: a colour whose numbers are the same.
func grey(n int) [3]int {
	return [3]int{n, n, n}
}

func skinOf(spread, mirror, glass, bend int) api.Skin {
	return api.Skin{Spread: grey(spread), Mirror: grey(mirror), Glass: grey(glass), Bend: bend}
}

func lamp(x, y, z float64, light int) api.Lamp {
	return api.Lamp{At: v(x, y, z), Light: grey(light)}
}

func eye() api.Eye {
	return api.Eye{At: v(0, 1, -5), Up: v(0, 1, 0), Wide: 1.5}
}

func ball(a api.Vec, r float64) api.Shape {
	return api.Shape{Kind: api.Ball, A: a, R: r}
}

func block(a, b api.Vec) api.Shape {
	return api.Shape{Kind: api.Block, A: a, B: b}
}

func triangle(a, b, c api.Vec) api.Shape {
	return api.Shape{Kind: api.Tri, A: a, B: b, C: c}
}

func plate(a, b api.Vec, r float64) api.Shape {
	return api.Shape{Kind: api.Plate, A: a, B: b, R: r}
}

func tube(a, b api.Vec, r float64) api.Shape {
	return api.Shape{Kind: api.Tube, A: a, B: b, R: r}
}

func ring(a, b api.Vec, r, q float64) api.Shape {
	return api.Shape{Kind: api.Ring, A: a, B: b, R: r, Q: q}
}

// wearing: a shape with another skin.
func wearing(skin int, s api.Shape) api.Shape {
	s.Skin = skin
	return s
}

// two: a solid of two shapes.
func two(op int, a, b api.Shape) api.Solid {
	return api.Solid{Parts: []api.Part{{Shape: a}, {Shape: b}, {Op: op, Left: 0, Right: 1}}}
}

// floor: it is struck from above at 0 by down, and what stands on it is (0, 1, 0).
func floor() api.Shape {
	return plate(v(0, 0, 0), v(0, 1, 0), 100)
}

// down: from above 0.
func down() api.Ray {
	return ray(v(0, 1, 0), v(0, -1, 0))
}

// room: a scene of shapes that wear the skin 0, if they don't say otherwise; the skin 1 is black.
func room(skin api.Skin, sky int, lamps []api.Lamp, shapes ...api.Shape) api.Scene {
	return api.Scene{Shapes: shapes, Skins: []api.Skin{skin, skinOf(0, 0, 0, 1000)}, Lamps: lamps, Sky: grey(sky), Eye: eye()}
}

func lamps(l ...api.Lamp) []api.Lamp {
	return l
}

func open(t *testing.T, s api.Scene) *bounce.World {
	t.Helper()
	w, e := bounce.Open(s)
	if e != api.OK || w == nil {
		t.Fatalf("Open of %+v: %v, %d", s, w, e)
	}
	return w
}

func wantLight(t *testing.T, what string, s api.Scene, r api.Ray, depth int, want [3]int) {
	t.Helper()
	if got, e := open(t, s).Trace(r, depth); e != api.OK || got != want {
		t.Errorf("%s: the light of %v with depth %d: %v, %d, not %v", what, r, depth, got, e, want)
	}
}

// told: all of a scene, bit by bit (a nought's sign, too).
func told(s api.Scene) string {
	return fmt.Sprintf("%+v", s)
}

// copied: a scene that shares nothing with s.
func copied(s api.Scene) api.Scene {
	s.Shapes, s.Skins, s.Lamps = slices.Clone(s.Shapes), slices.Clone(s.Skins), slices.Clone(s.Lamps)
	s.Solids, s.Fields = slices.Clone(s.Solids), slices.Clone(s.Fields)
	for i := range s.Solids {
		s.Solids[i].Parts = slices.Clone(s.Solids[i].Parts)
	}
	for i := range s.Fields {
		s.Fields[i].High = slices.Clone(s.Fields[i].High)
	}
	return s
}

// many: the lights of rays that are drawn, with all depths.
func many(w *bounce.World, s api.Scene) string {
	d := die(3)
	out := ""
	for i := range 60 {
		l, e := w.Trace(d.aimed(s), i%(api.MaxDepth+1))
		out += fmt.Sprint(l, e, ";")
	}
	return out
}

// L1

func TestOpenSaysWhatMaySays(t *testing.T) {
	d := die(11)
	good := d.scene()
	for len(good.Shapes) == 0 || len(good.Solids) == 0 || len(good.Fields) == 0 || len(good.Lamps) == 0 {
		good = d.scene()
	}
	// In the order in which they are told: of two faults the first one's error is.
	faults := []struct {
		do   func(*api.Scene)
		want api.Errno
	}{
		{func(s *api.Scene) { s.Lamps = slices.Repeat(s.Lamps[:1], api.MaxLamps+1) }, api.ErrLimit},
		{func(s *api.Scene) { s.Skins[0].Bend = 99 }, api.ErrValue},
		{func(s *api.Scene) { s.Skins[2].Mirror[1] = 1001 }, api.ErrValue},
		{func(s *api.Scene) { s.Shapes[0].Skin = len(s.Skins) }, api.ErrName},
		{func(s *api.Scene) { s.Solids[0].Parts[0].Op = 9 }, api.ErrForm},
		{func(s *api.Scene) { s.Solids[0].Parts[0].Shape.Kind = api.Ring + 1 }, api.ErrKind},
		{func(s *api.Scene) { s.Fields[0].High = s.Fields[0].High[1:] }, api.ErrCount},
		{func(s *api.Scene) { s.Lamps[0].At.Z = none }, api.ErrReach},
		{func(s *api.Scene) { s.Lamps[0].Light[2] = api.Full + 1 }, api.ErrValue},
		{func(s *api.Scene) { s.Sky[0] = -1 }, api.ErrValue},
		{func(s *api.Scene) { s.Eye.Wide = inf }, api.ErrReach},
		{func(s *api.Scene) { s.Eye.To = s.Eye.At }, api.ErrZero},
	}
	for i, second := range faults {
		for _, first := range faults[:i+1] {
			s := copied(good)
			second.do(&s)
			first.do(&s)
			if e := scene.May(s); e == api.OK {
				t.Fatalf("May of %+v is OK: the test tells nothing", s)
			}
			if w, e := bounce.Open(s); w != nil || e != scene.May(s) {
				t.Errorf("Open of %+v: %v, %d, not %d", s, w, e, scene.May(s))
			}
		}
		s := copied(good)
		second.do(&s)
		if w, e := bounce.Open(s); w != nil || e != second.want {
			t.Errorf("Open of %+v: %v, %d, not %d", s, w, e, second.want)
		}
	}
	open(t, good)
	open(t, api.Scene{Eye: eye()})
	if w, e := bounce.Open(api.Scene{}); w != nil || e != api.ErrValue {
		t.Errorf("Open of nothing: %v, %d", w, e)
	}
}

// spoil: all that a scene's lists hold, and what stands behind them, is written over.
func spoil(s api.Scene) {
	for i := range s.Solids {
		clear(s.Solids[i].Parts)
	}
	for i := range s.Fields {
		clear(s.Fields[i].High)
	}
	clear(s.Shapes)
	clear(s.Solids)
	clear(s.Fields)
	clear(s.Skins)
	clear(s.Lamps)
}

func TestAWorldDoesNotChange(t *testing.T) {
	d := die(13)
	for range 40 {
		s := d.scene()
		kept := copied(s)
		want := many(open(t, kept), kept)
		ahead, behind := copied(s), copied(s)
		early, late := open(t, ahead), open(t, behind)
		// The one is spoiled ahead of the first ray, the other behind it.
		spoil(ahead)
		if got := many(early, kept); got != want {
			t.Fatalf("%+v: a scene that is spoiled behind Open: %s, not %s", kept, got, want)
		}
		if got := many(late, kept); got != want {
			t.Fatalf("%+v: a second world: %s, not %s", kept, got, want)
		}
		spoil(behind)
		if got := many(late, kept); got != want {
			t.Fatalf("%+v: a scene that is spoiled behind a ray: %s, not %s", kept, got, want)
		}
	}
}

func TestASceneIsNotWrittenInto(t *testing.T) {
	d := die(17)
	for range 40 {
		s := d.scene()
		before := told(s)
		w := open(t, s)
		many(w, s)
		if told(s) != before {
			t.Fatalf("written into: %s, not %s", told(s), before)
		}
	}
}

// The tree is built once, whichever ray is first; and rays that are followed at the same time don't touch each other.
func TestRaysAtTheSameTime(t *testing.T) {
	d := die(19)
	for range 10 {
		s := d.scene()
		want := many(open(t, s), s)
		w := open(t, s)
		var got [8]string
		var wait sync.WaitGroup
		for i := range got {
			wait.Go(func() { got[i] = many(w, s) })
		}
		wait.Wait()
		for i := range got {
			if got[i] != want {
				t.Fatalf("%+v: by %d: %s, not %s", s, i, got[i], want)
			}
		}
	}
}

// A world that Open didn't give has nothing in it; even so nothing panics.
func TestNoWorld(t *testing.T) {
	var w *bounce.World
	if l, e := w.Trace(down(), 4); l != grey(0) || e != api.OK {
		t.Errorf("no world: %v, %d", l, e)
	}
	if l, e := w.Trace(down(), 5); l != grey(0) || e != api.ErrValue {
		t.Errorf("no world, too deep: %v, %d", l, e)
	}
	if l, e := new(bounce.World).Trace(down(), 4); l != grey(0) || e != api.OK {
		t.Errorf("a new world: %v, %d", l, e)
	}
}

// L2: what is refused

func TestTraceRefuses(t *testing.T) {
	z := v(0, 0, 1)
	w := open(t, room(skinOf(100, 200, 300, 1500), api.Full, lamps(lamp(0, 9, 0, api.Full)), floor()))
	for _, c := range []struct {
		r    api.Ray
		want api.Errno
	}{
		{ray(v(none, 0, 0), z), api.ErrReach}, {ray(v(0, beyond, 0), z), api.ErrReach}, {ray(v(0, 0, -inf), z), api.ErrReach},
		{ray(v(0, 0, 0), v(0, none, 1)), api.ErrReach}, {ray(v(0, 0, 0), v(beyond, 0, 0)), api.ErrReach}, {ray(v(0, 0, 0), v(0, tiny, 1)), api.ErrReach},
		{api.Ray{Dir: z, Least: none}, api.ErrReach}, {api.Ray{Dir: z, Least: -beyond}, api.ErrReach}, {api.Ray{Least: inf}, api.ErrReach},
		{api.Ray{}, api.ErrZero}, {api.Ray{Dir: v(0, minus0, 0), Least: -1}, api.ErrZero},
		{api.Ray{Dir: z, Least: -1}, api.ErrValue}, {api.Ray{Dir: z, Least: -5e-324}, api.ErrValue},
	} {
		for _, depth := range []int{0, 4, -1, 5, math.MinInt, math.MaxInt} {
			if l, e := w.Trace(c.r, depth); l != grey(0) || e != c.want {
				t.Errorf("Trace of %v, %d: %v, %d, not %d", c.r, depth, l, e, c.want)
			}
		}
	}
	for _, depth := range []int{-1, -2, api.MaxDepth + 1, math.MinInt, math.MaxInt} {
		if l, e := w.Trace(down(), depth); l != grey(0) || e != api.ErrValue {
			t.Errorf("Trace with depth %d: %v, %d", depth, l, e)
		}
	}
	for depth := range api.MaxDepth + 1 {
		if l, e := w.Trace(down(), depth); l == grey(0) || e != api.OK {
			t.Errorf("Trace with depth %d: %v, %d", depth, l, e)
		}
	}
}

// The document's own session: its scene, and what it tells of its light.
func TestTheExample(t *testing.T) {
	s, e := scene.Parse(`eye 0 1 -5 to 0 0 0 up 0 1 0 wide 1.2 ;
sky 20000 30000 65536 ;
skin r spread 700 100 100 mirror 100 100 100 glass 0 0 0 bend 1 ;
skin glas1 spread 0 0 0 mirror 100 100 100 glass 800 800 800 bend 1.5 ;
lamp 3 5 -4 light 60000 60000 60000 ;
plate 0 -1 0 up 0 1 0 radius 6 r ;
ball 0 0 0 radius 1 glas1 ;
repeat 2 by 2 0 0 { block 1 -1 1 to 2 0 2 r ; }`)
	if e != api.OK {
		t.Fatal(e)
	}
	w := open(t, s)
	if l, e := w.Trace(ray(v(0, 0, -5), v(0.05, -0.3, 1)), 4); e != api.OK || l != [3]int{37598, 7309, 9846} {
		t.Errorf("trace: %v, %d", l, e)
	}
	if l, e := w.Trace(ray(v(0, 0, -5), v(0, 0, 1)), 5); e != api.ErrValue || l != grey(0) {
		t.Errorf("trace, too deep: %v, %d", l, e)
	}
	for shots, want := range map[int][3]int{2: {613956, 406167, 823101}, 3: {883058, 615471, 1256102}} {
		if sum := summed(t, w, s.Eye, 4, 3, shots); sum != want {
			t.Errorf("sum of %d shots: %v, not %v", shots, sum, want)
		}
	}
}

// summed: the light of all pixels of a picture together, with depth 3.
func summed(t *testing.T, w *bounce.World, e api.Eye, wide, high, shots int) (sum [3]int) {
	t.Helper()
	for i := range wide * high * shots {
		x, y, k := i%wide, i/wide%high, i/wide/high
		du, dv, _ := chance.Shot(x, y, k)
		r, no := bounce.Ray(e, (x*api.Full+du)/wide, (y*api.Full+dv)/high, float64(high)/float64(wide))
		l, bad := w.Trace(r, 3)
		if no != api.OK || bad != api.OK {
			t.Fatalf("the pixel %d, %d: %d, %d", x, y, no, bad)
		}
		for c := range sum {
			sum[c] += l[c]
		}
	}
	return sum
}
