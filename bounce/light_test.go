package bounce_test

import (
	"math"
	"testing"

	"rayhouse/api"
	"rayhouse/tree"
)

// L2: what the lamps give

const bright = 60000

func TestRaysThatStrikeNothing(t *testing.T) {
	sky := [3]int{20000, 0, api.Full}
	full := skinOf(300, 300, 400, 1500)
	beside := room(full, 0, lamps(lamp(0, 5, 0, bright)), ball(v(9, 9, 9), 1))
	empty := api.Scene{Eye: eye()}
	for depth := range api.MaxDepth + 1 {
		for _, s := range []api.Scene{beside, empty} {
			for _, light := range [][3]int{sky, grey(0), grey(api.Full), {0, 1, 0}} {
				s.Sky = light
				wantLight(t, "nothing is struck", s, down(), depth, light)
			}
		}
	}
	// What is ahead of Least isn't struck, just at Least it is.
	s := room(skinOf(0, 0, 0, 1000), 777, nil, floor())
	for least, want := range map[float64]int{0: 0, 1: 0, math.Nextafter(1, 2): 777, 5: 777} {
		wantLight(t, "from Least on", s, api.Ray{From: v(0, 1, 0), Dir: v(0, -1, 0), Least: least}, 4, grey(want))
	}
}

// Each kind of thing is struck from the front, with a lamp straight behind the ray: all of its light falls there.
func TestEachKindOfThing(t *testing.T) {
	front := ray(v(0, 0, -5), v(0, 0, 2))
	spread := api.Skin{Spread: [3]int{1000, 500, 1}, Bend: 1000}
	want := [3]int{bright, bright / 2, bright / 1000}
	shapes := map[string]api.Shape{
		"a ball":                     ball(v(0, 0, 0), 1),
		"a block":                    block(v(-1, -1, -1), v(1, 1, 1)),
		"a triangle":                 triangle(v(-4, -4, 0), v(4, -4, 0), v(0, 4, 0)),
		"a triangle, the other way":  triangle(v(-4, -4, 0), v(0, 4, 0), v(4, -4, 0)),
		"a plate":                    plate(v(0, 0, 0), v(0, 0, -3), 1),
		"a plate, the other way":     plate(v(0, 0, 0), v(0, 0, 3), 1),
		"a tube's side":              tube(v(0, -1, 0), v(0, 2, 0), 1),
		"a tube's end":               tube(v(0, 0, -1), v(0, 0, 2), 1),
		"a ring":                     ring(v(0, 0, 0), v(0, 1, 0), 2, 0.5),
		"a ball around the ray":      ball(v(0, 0, -6), 4),
		"a block around the ray":     block(v(-9, -9, -99), v(9, 9, 9)),
		"a tube around ray and lamp": tube(v(0, 0, -20), v(0, 0, 40), 1),
	}
	for what, x := range shapes {
		s := room(spread, 5, lamps(lamp(0, 0, -9, bright)), x)
		wantLight(t, what, s, front, 0, want)
		wantLight(t, what, s, front, 4, want)
	}
	drilled := two(api.Less, block(v(-2, -2, -1), v(2, 2, 1)), ball(v(0, 0, -1), 1))
	for what, x := range map[string]api.Solid{
		"a leaf":        {Parts: []api.Part{{Shape: ball(v(0, 0, 0), 1)}}},
		"a turned leaf": drilled,
		"both":          two(api.Both, block(v(-2, -2, -1), v(2, 2, 1)), ball(v(0, 0, 0), 5)),
		"either":        two(api.Either, block(v(-2, -2, 2), v(2, 2, 3)), ball(v(0, 0, 0), 1)),
	} {
		s := room(spread, 5, lamps(lamp(0, 0, -9, bright)))
		s.Solids = []api.Solid{x}
		wantLight(t, what, s, front, 0, want)
	}
	s := room(skinOf(0, 0, 0, 1000), 5, lamps(lamp(0.25, 9, 0.25, bright)))
	s.Skins = append(s.Skins, spread)
	s.Fields = []api.Field{{W: 2, H: 2, Side: 1, High: make([]int, 4), Skin: 2}}
	wantLight(t, "a field", s, ray(v(0.25, 1, 0.25), v(0, -1, 0)), 0, want)
	s.Lamps[0].At.Y = -9
	wantLight(t, "a field from below", s, ray(v(0.25, -1, 0.25), v(0, 1, 0)), 0, want)
}

// The skin is that of the thing, not that of a solid's leaf.
func TestWhoseSkin(t *testing.T) {
	s := room(skinOf(0, 0, 0, 1000), 5, lamps(lamp(0, 9, 0, bright)))
	s.Skins = append(s.Skins, skinOf(100, 0, 0, 1000), skinOf(300, 0, 0, 1000))
	s.Shapes = []api.Shape{wearing(2, plate(v(0, 0, 0), v(0, 1, 0), 1)), wearing(3, plate(v(20, 0, 0), v(0, 1, 0), 1))}
	s.Solids = []api.Solid{{Parts: []api.Part{{Shape: wearing(3, ball(v(40, -1, 0), 1))}}, Skin: 2}}
	for x, want := range map[float64]int{0: 6000, 20: 18000, 40: 6000} {
		s.Lamps[0].At.X = x
		wantLight(t, "by its skin", s, ray(v(x, 1, 0), v(0, -1, 0)), 2, grey(want))
	}
}

// How much of a lamp falls on the floor at 0: from straight above all of it, from the side less.
func TestHowLampsStand(t *testing.T) {
	far := math.Sqrt(3)
	for _, c := range []struct {
		what    string
		x, y, z float64
		k       int
	}{
		{"straight above", 0, 5, 0, api.Full},
		{"straight above, near", 0, 0.5, 0, api.Full},
		{"straight above, at the reach", 0, api.MaxReach, 0, api.Full},
		{"3 by 4", 3, 4, 0, 52428},
		{"4 by 3", 0, 3, -4, 39321},
		{"a corner", 1, 1, 1, int(65536 / far)},
		{"nearly above", 1, 1000, 0, 65535},
		{"nearly beside", 0, 1, 65536, 0},
		{"a little above", 65535, 1, 0, 1},
		{"as little above as may be", 0, 1.0 / api.MaxReach, -1, 0},
		{"beside", 5, 0, 0, 0},
		{"beside, cleaned", 5, tiny, 0, 0},
		{"behind", 0, -5, 0, 0},
		{"a little behind", 5, -0.001, 0, 0},
		{"just at it", 0, 0, 0, 0},
		{"so near that it is at it", tiny, tiny, -tiny, 0},
		{"as near as may be", 0, 1.0 / api.MaxReach, 0, api.Full},
		{"so little beside that it is above", tiny, 5, -tiny, api.Full},
		{"a little beside", 1.0 / api.MaxReach, 5, 0, 65535},
	} {
		for _, light := range []int{0, 1, 3, bright, api.Full} {
			s := room(skinOf(1000, 0, 0, 1000), 999, lamps(lamp(c.x, c.y, c.z, light)), floor())
			wantLight(t, c.what, s, down(), 0, grey(light*c.k/api.Full))
		}
	}
}

// A lamp counts on the side from which the ray comes, wherever the thing's front is.
func TestTheRaysOwnSide(t *testing.T) {
	for _, up := range []float64{1, -1} {
		x := plate(v(0, 0, 0), v(0, up, 0), 9)
		s := room(skinOf(1000, 0, 0, 1000), 0, []api.Lamp{{At: v(0, 3, 0), Light: [3]int{7, 0, 0}}, {At: v(0, -3, 0), Light: [3]int{0, 8, 0}}}, x)
		wantLight(t, "from above", s, down(), 0, [3]int{7, 0, 0})
		wantLight(t, "from below", s, ray(v(0, -1, 0), v(0, 1, 0)), 0, [3]int{0, 8, 0})
	}
	// Within a ball: a lamp in it counts, one beyond is behind its wall.
	s := room(skinOf(1000, 0, 0, 1000), 0, lamps(lamp(0, 0.5, 0, bright), lamp(0, 5, 0, 1)), ball(v(0, 0, 0), 1))
	wantLight(t, "within a ball", s, ray(v(0, 0, 0), v(0, -1, 0)), 0, grey(bright))
}

func TestShade(t *testing.T) {
	black := func(s api.Shape) api.Shape { return wearing(1, s) }
	// The ray comes in beside what is between the floor and the lamp.
	slant := ray(v(-1, 1, 0), v(1, -1, 0))
	lit := func(what string, lampHigh float64, want int, between ...api.Shape) {
		t.Helper()
		s := room(skinOf(1000, 0, 0, 1000), 5, lamps(lamp(0, lampHigh, 0, bright)), append(between, floor())...)
		wantLight(t, what, s, slant, 0, grey(want))
	}
	cover := func(high float64) api.Shape { return black(plate(v(0, high, 0), v(0, 1, 0), high/4)) }
	lit("nothing between", 4, bright)
	lit("a plate between", 4, 0, cover(2))
	lit("a ball between", 4, 0, black(ball(v(0, 2, 0), 0.5)))
	lit("a block around the lamp", 4, 0, black(block(v(-1, 3, -1), v(1, 5, 1))))
	lit("beside the way", 4, bright, black(ball(v(0.75, 2, 0), 0.5)))
	lit("beyond the lamp", 4, bright, cover(5))
	lit("just at the lamp", 4, bright, cover(4))
	lit("just ahead of the lamp", 4, 0, cover(math.Nextafter(4, 0)))
	lit("glass shades as well", 4, 0, plate(v(0, 2, 0), v(0, 1, 0), 0.5))
	// Least is 0.001 of the way to the lamp: what is nearer doesn't shade.
	lit("at 0.001", 1000, 0, cover(1))
	lit("just ahead of 0.001", 1000, bright, cover(math.Nextafter(1, 0)))
	lit("at 0.0005", 1000, bright, cover(0.5))
	lit("at 0.002", 1000, 0, cover(2))
	// Each lamp by itself.
	s := room(skinOf(1000, 0, 0, 1000), 5, lamps(lamp(0, 4, 0, 10), lamp(0, 1, 0, 200), lamp(0, 9, 0, 3000), lamp(0, -4, 0, 40000)), cover(2), floor())
	wantLight(t, "some in the shade", s, slant, 0, grey(200))
	s.Shapes = s.Shapes[1:]
	wantLight(t, "none in the shade", s, slant, 0, grey(3210))
}

// Of a lamp so far away that the ray to it isn't Fine nothing comes.
func TestALampTooFarAway(t *testing.T) {
	ground := block(v(-api.MaxReach, -1, -1), v(api.MaxReach, 0, 1))
	from := ray(v(-900000, 1, 0), v(0, -1, 0))
	for x, want := range map[float64]int{90000: 65536, 900000: 0, 100000: 65536, 100000.001: 0} {
		s := room(skinOf(1000, 0, 0, 1000), 5, lamps(lamp(x, 1000000, 0, api.Full)), ground)
		got, e := open(t, s).Trace(from, 0)
		if e != api.OK || got[0] > want || want > 0 && got[0] < 40000 {
			t.Errorf("a lamp at %v: %v, %d", x, got, e)
		}
	}
}

// What is cut off: the light of each lamp, then all of it together by the skin's part; each of what bounced by itself.
func TestSumsAreCutOff(t *testing.T) {
	at := func(c [3]int) api.Lamp { return api.Lamp{At: v(0, 3, 0), Light: c} }
	half := api.Lamp{At: v(0, 1, math.Sqrt(3)), Light: grey(3)}
	for _, c := range []struct {
		what   string
		spread int
		lamps  []api.Lamp
		want   [3]int
	}{
		{"a half", 500, lamps(at(grey(3))), grey(1)},
		{"nearly all", 999, lamps(at(grey(1000))), grey(999)},
		{"nearly one", 999, lamps(at(grey(1))), grey(0)},
		{"two together", 500, lamps(at(grey(1)), at(grey(1))), grey(1)},
		{"four together", 250, lamps(at(grey(1)), at(grey(1)), at(grey(1)), at(grey(1))), grey(1)},
		{"colours by themselves", 500, lamps(at([3]int{1, 0, 3}), at([3]int{0, 1, 2})), [3]int{0, 0, 2}},
		{"each lamp", 1000, lamps(half, half), grey(2)},
		{"all of four", 1000, lamps(at(grey(api.Full)), at(grey(api.Full)), at(grey(api.Full)), at(grey(api.Full))), grey(4 * api.Full)},
		{"nothing", 0, lamps(at(grey(api.Full))), grey(0)},
		{"no lamp", 1000, nil, grey(0)},
	} {
		wantLight(t, c.what, room(skinOf(c.spread, 0, 0, 1000), 5, c.lamps, floor()), down(), 4, c.want)
	}
	s := room(skinOf(333, 333, 333, 1000), 2, lamps(lamp(0, 3, 0, 2)), floor())
	wantLight(t, "three times nearly two thirds", s, down(), 1, grey(0))
	s = room(skinOf(334, 333, 333, 1000), 10, lamps(lamp(0, 3, 0, 10)), floor())
	wantLight(t, "three times three", s, down(), 1, grey(9))
}

// The parts of a skin, colour by colour.
func TestPartsOfSkins(t *testing.T) {
	light, sky := [3]int{1000, 2000, 3000}, [3]int{10000, 20000, 30000}
	for _, c := range []struct {
		k    api.Skin
		want [3]int
	}{
		{skinOf(0, 0, 0, 1000), grey(0)},
		{skinOf(1000, 0, 0, 1000), light},
		{skinOf(0, 1000, 0, 1000), sky},
		{skinOf(0, 0, 1000, 1000), sky},
		{skinOf(0, 0, 1000, 10000), sky},
		{skinOf(0, 500, 500, 100), sky},
		{api.Skin{Spread: [3]int{0, 0, 1000}, Bend: 1000}, [3]int{0, 0, 3000}},
		{api.Skin{Mirror: [3]int{1, 0, 0}, Bend: 1000}, [3]int{10, 0, 0}},
		{api.Skin{Mirror: [3]int{0, 0, 999}, Bend: 1000}, [3]int{0, 0, 29970}},
		{api.Skin{Glass: [3]int{0, 1000, 0}, Bend: 1000}, [3]int{0, 20000, 0}},
		{api.Skin{Glass: [3]int{0, 0, 1}, Bend: 1000}, [3]int{0, 0, 30}},
		{api.Skin{Spread: [3]int{1000, 0, 0}, Mirror: [3]int{0, 1000, 0}, Glass: [3]int{0, 0, 1000}, Bend: 1500}, [3]int{1000, 20000, 30000}},
		{api.Skin{Spread: [3]int{100, 200, 300}, Mirror: [3]int{200, 300, 400}, Glass: [3]int{700, 500, 300}, Bend: 1500}, [3]int{100 + 2000 + 7000, 400 + 6000 + 10000, 900 + 12000 + 9000}},
	} {
		s := room(c.k, 0, []api.Lamp{{At: v(0, 3, 0), Light: light}}, floor())
		s.Sky = sky
		for depth := 1; depth <= api.MaxDepth; depth++ {
			wantLight(t, "by its parts", s, down(), depth, c.want)
		}
		only := [3]int{}
		for i := range only {
			only[i] = light[i] * c.k.Spread[i] / 1000
		}
		wantLight(t, "with depth 0", s, down(), 0, only)
	}
}

// L2: what bounces

// Between two mirrors the ray goes to and fro, as often as depth says; a lamp between them shines on both.
func TestMirrorsThatFaceEachOther(t *testing.T) {
	s := room(skinOf(500, 500, 0, 1000), api.Full, lamps(lamp(0, 0.5, 0, bright)), floor(), plate(v(0, 1, 0), v(0, 1, 0), 100))
	for depth, want := range []int{30000, 45000, 52500, 56250, 58125} {
		wantLight(t, "to and fro", s, ray(v(0, 0.75, 0), v(0, -3, 0)), depth, grey(want))
	}
	// Without light of their own they give nothing, however deep: the sky isn't seen.
	s.Skins[0] = skinOf(0, 1000, 0, 1000)
	for depth := range api.MaxDepth + 1 {
		wantLight(t, "in the dark", s, ray(v(0, 0.75, 0), v(0, -3, 0)), depth, grey(0))
	}
}

// What is seen in a slanting mirror.
func TestWhereAMirrorThrows(t *testing.T) {
	mirror := skinOf(0, 1000, 0, 1000)
	for _, from := range []api.Ray{ray(v(-3, 4, 0), v(3, -4, 0)), ray(v(-0.3, 0.4, 0), v(0.15, -0.2, 0)), ray(v(-3, -4, 0), v(3, 4, 0))} {
		side := from.From.Y / math.Abs(from.From.Y)
		for _, c := range []struct {
			x, y float64
			want int
		}{{3, 4, 0}, {6, 8, 0}, {3, 3, 500}, {4, 4, 500}, {-6, 8, 500}, {3, -4, 500}, {6, -8, 500}, {0, 8, 500}} {
			target := wearing(1, ball(v(c.x, c.y*side, 0), 0.01))
			s := room(mirror, 500, nil, floor(), target)
			wantLight(t, "thrown back", s, from, 1, grey(c.want))
		}
	}
}

// What bounced counts from 0.001 on: what is nearer isn't struck.
func TestWhatBouncedCountsFromLeastOn(t *testing.T) {
	for _, c := range []struct {
		far  float64
		want int
	}{{0.0005, 500}, {math.Nextafter(0.001, 0), 500}, {0.001, 0}, {0.002, 0}, {1, 0}} {
		target := func(side float64) api.Shape { return wearing(1, plate(v(0, c.far*side, 0), v(0, 1, 0), 1)) }
		near := ray(v(0, c.far/2, 0), v(0, -1000, 0))
		wantLight(t, "mirrored", room(skinOf(0, 1000, 0, 1000), 500, nil, floor(), target(1)), near, 1, grey(c.want))
		wantLight(t, "let through", room(skinOf(0, 0, 1000, 1000), 500, nil, floor(), target(-1)), near, 1, grey(c.want))
	}
}

// Where a ray goes that bounced is cleaned: of Dir's numbers one may be too near to 0, once its length is 1.
func TestWhatBouncedIsCleaned(t *testing.T) {
	steep := ray(v(0, 5, 0), v(2.0/api.MaxReach, -5, -1.0/api.MaxReach))
	for _, k := range []api.Skin{skinOf(0, 1000, 0, 1000), skinOf(0, 0, 1000, 1500), skinOf(0, 500, 500, 700)} {
		wantLight(t, "cleaned", room(k, 500, nil, floor()), steep, 1, grey(500))
	}
	wantLight(t, "cleaned, through a pane", room(skinOf(0, 0, 1000, 1500), 500, nil, pane()), steep, 2, grey(500))
}

// pane: of glass, 1 thick, from the floor down.
func pane() api.Shape {
	return block(v(-99, -1, -99), v(99, 0, 99))
}

// deep: how far beside it comes out of a pane, if it goes in 0.6 beside and 0.8 down, and light bends by 1.5 there: 0.4 beside.
var deep = 0.4 / math.Sqrt(1-0.16)

// seenAt: whether a ray comes by a place: a black ball there takes all that comes from the sky, one a little beside nothing.
func seenAt(t *testing.T, what string, s api.Scene, r api.Ray, depth int, x, y float64, want int) {
	t.Helper()
	for _, c := range []struct{ x, y, part float64 }{{0, 0, 0}, {0.05, 0, 1}, {-0.05, 0, 1}, {0, 0.05, 1}, {0, -0.05, 1}} {
		s.Shapes = append(s.Shapes[:1:1], wearing(1, ball(v(x+c.x, y+c.y, 0), 0.01)))
		wantLight(t, what, s, r, depth, grey(int(c.part)*want))
	}
}

func TestIntoGlass(t *testing.T) {
	in := ray(v(-0.6, 0.8, 0), v(1.2, -1.6, 0))
	s := room(skinOf(0, 0, 1000, 1500), 500, nil, pane())
	seenAt(t, "through a pane", s, in, 2, deep+0.75, -2, 500)
	seenAt(t, "through a pane, deeper than need be", s, in, 4, deep+0.75, -2, 500)
	s.Skins[0] = skinOf(0, 0, 900, 1500)
	seenAt(t, "through a darker pane", s, in, 2, deep+0.75, -2, 405)
	wantLight(t, "not deep enough", s, in, 1, grey(0))
	wantLight(t, "not deep at all", s, in, 0, grey(0))
	// Where light is faster within, it is bent the other way: 0.6 becomes 0.75.
	s.Skins[0] = skinOf(0, 0, 1000, 800)
	seenAt(t, "through a thin pane", s, in, 2, 0.75/math.Sqrt(1-0.5625)+0.75, -2, 500)
}

func TestFromWithinGlass(t *testing.T) {
	s := room(skinOf(0, 0, 1000, 1500), 500, nil, pane())
	out := ray(v(-deep/2, -0.5, 0), v(deep, 1, 0))
	seenAt(t, "out of a pane", s, out, 1, 0.75, 1, 500)
	wantLight(t, "not deep enough", s, out, 0, grey(0))
	s.Skins[0] = skinOf(0, 0, 1000, 800)
	seenAt(t, "out of a thin pane", s, ray(v(-0.375, -0.5, 0), v(0.75, 1, 0)), 1, 0.48/math.Sqrt(1-0.2304), 1, 500)
}

// A ray that can't leave the glass is thrown back, and what it brings counts as let through.
func TestARayThatCantLeave(t *testing.T) {
	stuck := ray(v(-0.8, -0.6, 0), v(0.8, 0.6, 0))
	for _, c := range []struct {
		k    api.Skin
		want int
	}{
		{skinOf(0, 0, 1000, 1500), 6000}, {skinOf(0, 0, 700, 1500), 4200}, {skinOf(0, 1000, 0, 1500), 6000},
		{skinOf(0, 300, 700, 1500), 6000}, {skinOf(0, 300, 600, 1500), 5400},
		// Where it can leave, it sees the sky.
		{skinOf(0, 0, 1000, 1200), 500}, {skinOf(0, 300, 700, 1200), 1800 + 350},
	} {
		s := room(c.k, 500, lamps(lamp(0.8-0.01, -0.6+0.01, 0, 6000)), pane())
		s.Skins = append(s.Skins, skinOf(1000, 0, 0, 1000))
		// A little plate within the glass, just where the ray is thrown to; the lamp stands close to it, straight above.
		s.Shapes = append(s.Shapes, wearing(2, plate(v(0.8, -0.6, 0), v(-1, 1, 0), 0.001)))
		wantNearly(t, "that can't leave", s, stuck, 1, c.want)
	}
	// From without, too: where light is faster within.
	for _, c := range []struct {
		bend, want int
	}{{700, 0}, {900, 500}} {
		s := room(skinOf(0, 0, 1000, c.bend), 500, nil, pane(), wearing(1, ball(v(1.6, 1.2, 0), 0.01)))
		wantLight(t, "that can't go in", s, ray(v(-0.8, 0.6, 0), v(0.8, -0.6, 0)), 2, grey(c.want))
	}
}

// Just where light begins to be thrown back the last bit of each number tells what becomes of it.
func TestJustWhereARayCantLeave(t *testing.T) {
	seen := tally{}
	for bend := 301; bend < 1000; bend++ {
		side := float64(bend) / 1000
		// What is thrown back comes to the block above, what goes in to the far end of the pane, and to the sky.
		s := room(skinOf(0, 0, 1000, bend), 500, nil, pane(), wearing(1, block(v(-99, 4, -9), v(99, 5, 9))))
		w := open(t, s)
		for off := -6; off <= 6; off++ {
			dir := v(side+float64(off)*0x1p-53, -math.Sqrt(1-side*side), 0)
			want := second(s, ray(v(0, 1, 0), dir), 2, seen)
			if got, e := w.Trace(ray(v(0, 1, 0), dir), 2); e != api.OK || got != want {
				t.Fatalf("the light of %v with Bend %d: %v, %d, not %v", dir, bend, got, e, want)
			}
		}
	}
	if seen["can't leave"] < 1000 || seen["glass"]-seen["can't leave"] < 1000 {
		t.Errorf("%v: the test tells little", seen)
	}
}

// wantNearly: up to three less: where a ray strikes is rounded, and so is how a lamp stands to that.
func wantNearly(t *testing.T, what string, s api.Scene, r api.Ray, depth, want int) {
	t.Helper()
	got, e := open(t, s).Trace(r, depth)
	if e != api.OK || got != grey(got[0]) || got[0] > want || got[0] < want-3 {
		t.Errorf("%s: the light of %v with depth %d: %v, %d, not nearly %d", what, r, depth, got, e, want)
	}
}

// With each depth a ray sees one pane more.
func TestThroughManyPanes(t *testing.T) {
	s := room(skinOf(100, 0, 900, 1000), 10000, lamps(lamp(0, 10.5, 0, 5000)))
	for i := range 4 {
		s.Shapes = append(s.Shapes, plate(v(0, float64(-i), 0), v(0, 1, 0), 5))
	}
	// Only the first one is lit: the others lie in its shade.
	for depth, want := range []int{500, 500, 500, 500, 500 + 6561} {
		wantLight(t, "through panes", s, down(), depth, grey(want))
	}
}

// L2: where nothing stands

// needle: a triangle about 0, square to Z, whose sides are so short that the product of both is x.
func needle(x float64) api.Shape {
	side := math.Sqrt(x)
	return triangle(v(-side/2, -side/2, 0), v(0, side/2, 0), v(side/2, -side/2, 0))
}

// normalOf: what stands on a shape, by the tree.
func normalOf(t *testing.T, x api.Shape) float64 {
	t.Helper()
	grown, e := tree.Build([]api.Shape{x}, nil, nil)
	if e != api.OK {
		t.Fatal(e)
	}
	n, _, _ := grown.Normal(api.Found{}, v(0, 0, 0))
	return math.Abs(n.Z)
}

var along = ray(v(0, 0, -1), v(0, 0, 1))

func TestWhereNothingStands(t *testing.T) {
	x := needle(1e-180)
	if normalOf(t, x) != 0 {
		t.Fatalf("something stands on %v: the test tells nothing", x)
	}
	for depth := range api.MaxDepth + 1 {
		s := room(skinOf(400, 300, 300, 1000), api.Full, lamps(lamp(0, 0, -5, api.Full)), x)
		wantLight(t, "where nothing stands", s, along, depth, grey(0))
	}
}

// A ray may strike the side of a block that lies at the reach a little beyond it: there is no Normal.
func TestWhereThereIsNoNormal(t *testing.T) {
	d := die(37)
	s := room(skinOf(400, 300, 300, 1000), api.Full, lamps(lamp(0, 0, 0, api.Full)), block(v(api.MaxReach, -10, -10), v(api.MaxReach, 10, 10)))
	w := open(t, s)
	var count [2]int
	for range 1000 {
		r := ray(v(d.number(9), 0, 0), v(d.size(), 0, 0))
		far := (api.MaxReach - r.From.X) / r.Dir.X
		out := 0
		if r.From.X+float64(r.Dir.X*far) > api.MaxReach {
			out = 1
		}
		count[out]++
		l, e := w.Trace(r, 1)
		if e != api.OK || (l == grey(0)) != (out == 1) {
			t.Fatalf("%v: %v, %d, struck at %v", r, l, e, r.From.X+float64(r.Dir.X*far))
		}
	}
	if count[0] < 50 || count[1] < 50 {
		t.Errorf("%v: the test tells little", count)
	}
}

// needleOf: a needle on which stands what isn't 1 long, but n. The square of the product of its sides is the least float above 0, to which it is rounded: so the product isn't divided by itself.
func needleOf(t *testing.T, n float64) api.Shape {
	t.Helper()
	x := needle(n * math.Sqrt(math.SmallestNonzeroFloat64))
	if got := normalOf(t, x); math.Abs(got-n) > 1e-9 {
		t.Fatalf("%v stands on %v, not %v: the test tells nothing", got, x, n)
	}
	return x
}

// A ray that bounced isn't Fine any more, if nothing is left of its direction: it brings nothing, not even the sky.
func TestARayThatBouncedAndIsNotFine(t *testing.T) {
	x := needleOf(t, math.Sqrt(0.5)+1e-7)
	sky := 50000
	for _, c := range []struct {
		k    api.Skin
		want int
	}{
		{skinOf(0, 1000, 0, 1000), 0},
		{skinOf(0, 0, 1000, 1000), sky},
		{skinOf(0, 400, 600, 1000), sky * 600 / 1000},
		// It can't go through here: thrown back, it isn't Fine either.
		{skinOf(0, 0, 1000, 500), 0},
		{skinOf(0, 400, 600, 500), 0},
	} {
		wantLight(t, "that isn't Fine any more", room(c.k, sky, nil, x), along, 4, grey(c.want))
	}
}

// No more than all of a lamp's light falls anywhere, even where what stands there is longer than 1.
func TestNoMoreThanAllOfALamp(t *testing.T) {
	x := needleOf(t, 1.2)
	for _, light := range []int{1, 1000, api.Full} {
		s := room(skinOf(1000, 0, 0, 1000), 5, lamps(lamp(0, 0, -5, light)), x)
		wantLight(t, "all of it", s, along, 0, grey(light))
		s.Lamps = lamps(lamp(0, 3, -4, light))
		wantLight(t, "nearly all of it", s, along, 0, grey(light*int(0.8*normalOf(t, x)*api.Full)/api.Full))
	}
}

// What a world answers hangs on the ray alone, not on the rays ahead.
func TestTheSameAgain(t *testing.T) {
	d := die(41)
	for range 20 {
		s := d.scene()
		w := open(t, s)
		if a, b := many(w, s), many(w, s); a != b {
			t.Fatalf("%+v: %s, then %s", s, a, b)
		}
	}
}
