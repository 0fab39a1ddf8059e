package tree_test

import (
	"math"
	"slices"
	"testing"

	"rayhouse/api"
	"rayhouse/tree"
)

// wantFound: what Nearest tells, and Any with it: just what is farther than T is too far.
func wantFound(t *testing.T, what string, grown *tree.Tree, r api.Ray, want api.Found) {
	t.Helper()
	f, e := grown.Nearest(r)
	if e != api.OK || !sameFound(f, want) {
		t.Errorf("Nearest, %s, by %v: %v, %d, not %v", what, r, f, e, want)
	}
	for far, any := range map[float64]bool{
		want.T: false, next(want.T): true, ahead(want.T): false, inf: true, -inf: false, none: false,
		0: false, minus0: false, -5e-324: false, -1: false, math.MaxFloat64: true, 2*want.T + 1: true, want.T / 2: false,
	} {
		if got, e := grown.Any(r, far); e != api.OK || got != any {
			t.Errorf("Any, %s, by %v up to %v: %t, %d, not %t: %v is found", what, r, far, got, e, any, want)
		}
	}
}

// wantNothing: Which -1, all else 0; and nothing is nearer than anything.
func wantNothing(t *testing.T, what string, grown *tree.Tree, r api.Ray, want api.Errno) {
	t.Helper()
	if f, e := grown.Nearest(r); e != want || !sameFound(f, api.Found{Which: -1}) {
		t.Errorf("Nearest, %s, by %v: %v, %d, not -1 and %d", what, r, f, e, want)
	}
	for _, far := range []float64{0, 1, inf, -inf, none, api.MaxFar, math.MaxFloat64} {
		if any, e := grown.Any(r, far); any || e != want {
			t.Errorf("Any, %s, by %v up to %v: %t, %d, not false and %d", what, r, far, any, e, want)
		}
	}
}

func shapesOf(l ...api.Shape) all {
	return all{shapes: l}
}

func solidsOf(l ...api.Solid) all {
	return all{solids: l}
}

func fieldsOf(l ...api.Field) all {
	return all{fields: l}
}

// wall: a field that stands nearly upright, so that a ray from 0 along Z strikes it at z, in its piece 1.
func wall(z float64) api.Field {
	f := flat(2, 2, v(-0.5, 0, z-0.5))
	f.High = []int{-500, -500, 500, 500}
	return f
}

// B2

func TestNearestOrdinary(t *testing.T) {
	drilled := two(api.Less, bar(1, 9), bar(-1, 3))
	row := shapesOf(bar(7, 8), ball(v(0, 0, 5), 1), bar(2, 3), plate(v(0, 0, 6.5), v(0, 0, 1), 1), block(v(3, 3, 0), v(4, 4, 1)))
	for _, c := range []struct {
		what string
		all
		r    api.Ray
		want api.Found
	}{
		{"one shape", shapesOf(bar(2, 3)), along(0), api.Found{T: 2}},
		{"the nearest of several shapes", row, along(0), api.Found{Which: 2, T: 2}},
		{"the nearest from within it", row, along(2.5), api.Found{Which: 2, T: 3}},
		{"the nearest beyond the first", row, along(next(3)), api.Found{Which: 1, T: 4}},
		{"the nearest beyond the second", row, along(next(6)), api.Found{Which: 3, T: 6.5}},
		{"the other way about", row, ray(v(0, 0, 9), v(0, 0, -2), 0), api.Found{Which: 0, T: 0.5}},
		{"the one beside", row, ray(v(3.5, 3.5, 9), v(0, 0, -2), 0), api.Found{Which: 4, T: 4}},
		{"one solid", solidsOf(of(leaf(bar(2, 3)))), along(0), api.Found{T: 2}},
		{"a solid's second leaf", solidsOf(drilled), along(0), api.Found{Piece: 1, Turned: true, T: 3}},
		{"a solid's first leaf, from within", solidsOf(drilled), along(next(3)), api.Found{Piece: 0, T: 9}},
		{"the second solid", solidsOf(drilled, of(leaf(bar(11, 12)), leaf(bar(2, 3)))), along(0), api.Found{Which: 1, Piece: 1, T: 2}},
		{"one field", fieldsOf(flat(2, 2, v(0, -1, 0))), ray(v(0.25, 1, 0.25), v(0, -1, 0), 0), api.Found{Piece: 0, T: 2}},
		{"a field's last piece", fieldsOf(flat(8, 8, v(0, -1, 0))), ray(v(6.75, 1, 6.75), v(0, -1, 0), 0), api.Found{Piece: 97, T: 2}},
		{"the second field", fieldsOf(flat(2, 2, v(0, -1, 0)), flat(2, 2, v(0, 0, 0))), ray(v(0.75, 1, 0.75), v(0, -1, 0), 0), api.Found{Which: 1, Piece: 1, T: 1}},
		{"a shape ahead of a solid and a field", all{shapesOf(bar(2, 3)).shapes, solidsOf(drilled).solids, fieldsOf(wall(6)).fields}, along(0), api.Found{T: 2}},
		{"a solid ahead of a shape and a field", all{shapesOf(bar(8, 9)).shapes, solidsOf(drilled).solids, fieldsOf(wall(6)).fields}, along(0), api.Found{Which: 1, Piece: 1, Turned: true, T: 3}},
		{"a field ahead of a shape and a solid", all{shapesOf(bar(8, 9)).shapes, solidsOf(drilled).solids, fieldsOf(wall(2)).fields}, along(0), api.Found{Which: 2, T: 2}},
	} {
		wantFound(t, c.what, c.build(t), c.r, c.want)
	}
}

func TestNothingIsStruck(t *testing.T) {
	some := all{[]api.Shape{bar(2, 3), ball(v(0, 0, 5), 1)}, []api.Solid{two(api.Less, bar(1, 4), bar(0, 5))}, []api.Field{flat(2, 2, v(0, -1, 0))}}
	for _, c := range []struct {
		what string
		all
		r api.Ray
	}{
		{"no thing at all", all{}, along(0)},
		{"no thing in lists", all{[]api.Shape{}, []api.Solid{}, []api.Field{}}, along(0)},
		{"beyond all of it", some, along(next(6))},
		{"beside all of it", some, ray(v(2, 0, 0), v(0, 0, 1), 0)},
		{"behind all of it", some, ray(v(0, 0, -1), v(0, 0, -1), 0)},
		{"within the box around all, between the things", some, ray(v(-1.5, -0.5, 1.5), v(1, 0, 0), 0)},
		{"a solid of nothing", solidsOf(two(api.Less, bar(1, 4), bar(0, 5))), along(0)},
		{"a flat triangle", shapesOf(triangle(v(0, 0, 1), v(0, 0, 2), v(0, 0, 3))), along(0)},
	} {
		wantNothing(t, c.what, c.build(t), c.r, api.OK)
	}
}

// Of several at the same T the first is told, of whichever kinds they are, and in whichever order they lie in the boxes.
func TestTheFirstOfSeveral(t *testing.T) {
	third := api.Shape{Kind: api.Tri, A: v(-9, -9, 2), B: v(9, -9, 2), C: v(0, 9, 2)}
	disc, other := plate(v(0, 0, 2), v(0, 0, 1), 1), block(v(-1, -5, 2), v(5, 1, 2))
	body := of(leaf(bar(7, 8)), leaf(bar(2, 9)))
	row := []api.Shape{disc, other, third, bar(2, 3), ball(v(0, 0, 3), 1), tube(v(0, 0, 2), v(0, 0, 9), 1), bar(0.5, 2)}
	for first := range row {
		for second := range row {
			got := shapesOf(row[first], bar(4, 5), row[second]).build(t)
			wantFound(t, "two shapes", got, along(1), api.Found{Which: 0, T: 2})
			got = shapesOf(ball(v(0, 3, 2), 1), row[first], bar(4, 5), row[second], row[second]).build(t)
			wantFound(t, "two shapes behind another", got, along(1), api.Found{Which: 1, T: 2})
		}
		got := all{[]api.Shape{row[first]}, []api.Solid{body}, []api.Field{wall(2)}}.build(t)
		wantFound(t, "one of each kind", got, along(1), api.Found{Which: 0, T: 2})
	}
	for _, c := range []struct {
		what string
		all
		want api.Found
	}{
		{"a solid and a field", all{[]api.Shape{bar(3, 4)}, []api.Solid{body}, []api.Field{wall(2)}}, api.Found{Which: 1, Piece: 1, T: 2}},
		{"two solids", solidsOf(body, of(leaf(bar(2, 3)))), api.Found{Which: 0, Piece: 1, T: 2}},
		{"two solids, the other way about", solidsOf(of(leaf(bar(2, 3))), body), api.Found{Which: 0, Piece: 0, T: 2}},
		{"two fields", fieldsOf(wall(2), wall(2)), api.Found{Which: 0, Piece: 0, T: 2}},
		{"the same solid, often", solidsOf(slices.Repeat([]api.Solid{body}, api.MaxSolids)...), api.Found{Which: 0, Piece: 1, T: 2}},
		{"the same shape, often", shapesOf(slices.Repeat([]api.Shape{third}, api.MaxShapes)...), api.Found{Which: 0, T: 2}},
	} {
		wantFound(t, c.what, c.build(t), along(1), c.want)
	}
}

// The one that is struck at the same T with the least number may lie in any of the boxes: wherever it stands, all of them are looked into.
func TestTheFirstOfManyAtTheSameT(t *testing.T) {
	d := die(5)
	for range 300 {
		var l []api.Shape
		first := -1
		for i := range 1 + d.n(api.MaxShapes) {
			// All of them begin at 2; how far they go, and how far beside, is drawn: so the boxes are put in any order.
			side := float64(1 + d.n(30))
			s := block(v(-side, -float64(d.n(9)), 2), v(float64(1+d.n(30)), float64(d.n(9)), float64(2+d.n(40))))
			if d.n(4) > 0 {
				s.A.X = 0.5
			} else if first < 0 {
				first = i
			}
			l = append(l, s)
		}
		grown := shapesOf(l...).build(t)
		if first < 0 {
			wantNothing(t, "many beside", grown, along(1), api.OK)
			continue
		}
		wantFound(t, "many at 2", grown, along(1), api.Found{Which: first, T: 2})
	}
}

func TestBoxesWithinBoxes(t *testing.T) {
	var within, touching, flats []api.Shape
	for i := range 20 {
		x := float64(i)
		within = append(within, block(v(-20+x, -20+x, 20+x), v(20-x, 20-x, 60-x)))
		touching = append(touching, block(v(-1, -1, x), v(1, 1, x+1)))
		flats = append(flats, block(v(-1, -1, 19-x), v(1, 1, 19-x)))
	}
	slices.Reverse(within[5:])
	grown := shapesOf(within...).build(t)
	wantFound(t, "within each other", grown, along(0), api.Found{Which: 0, T: 20})
	wantFound(t, "within each other, from the third on", grown, along(22), api.Found{Which: 3, T: 23})
	wantFound(t, "from the innermost", grown, along(40), api.Found{Which: 5, T: 41})
	wantFound(t, "from beside the innermost", grown, ray(v(1.5, 0, 40), v(0, 0, 1), 0), api.Found{Which: 6, T: 2})

	grown = shapesOf(touching...).build(t)
	for i := range 20 {
		x := float64(i)
		// Ahead of where two touch lies the end of the one and the beginning of the other.
		if i > 0 {
			wantFound(t, "touching", grown, along(x), api.Found{Which: i - 1, T: x})
		}
		wantFound(t, "touching, between", grown, along(x+0.5), api.Found{Which: i, T: x + 1})
		wantFound(t, "touching, along the side", grown, ray(v(-9, 1, x+0.5), v(1, 0, 0), 0), api.Found{Which: i, T: 8})
	}
	grown = shapesOf(flats...).build(t)
	for i := range 20 {
		wantFound(t, "flat", grown, along(float64(19-i)), api.Found{Which: i, T: float64(19 - i)})
	}
	wantNothing(t, "beyond the flat ones", grown, along(next(19)), api.OK)
}

func TestAlongSides(t *testing.T) {
	grown := all{[]api.Shape{bar(2, 3), bar(5, 6), bar(8, 9)}, []api.Solid{of(leaf(bar(11, 12)))}, nil}.build(t)
	for _, x := range []float64{-1, 1} {
		wantFound(t, "along a side", grown, ray(v(x, 0, 0), v(0, 0, 1), 0), api.Found{T: 2})
		wantFound(t, "along an edge", grown, ray(v(x, x, 0), v(0, 0, 1), next(6)), api.Found{Which: 2, T: 8})
		wantFound(t, "along a side, with -0", grown, ray(v(x, minus0, minus0), v(minus0, 0, 1), minus0), api.Found{T: 2})
		wantFound(t, "along a solid's side", grown, ray(v(x, 0, 0), v(0, 0, 1), 10), api.Found{Which: 3, T: 11})
		wantNothing(t, "just beside", grown, ray(v(next(1)*x, 0, 0), v(0, 0, 1), 0), api.OK)
		wantNothing(t, "just beside in Y", grown, ray(v(0, next(1)*x, 0), v(0, 0, 1), 0), api.OK)
	}
	wantFound(t, "across, along a side", grown, ray(v(-3, 0, 5), v(2, 0, 0), 0), api.Found{Which: 1, T: 1})
	wantFound(t, "across, along the side at the end", grown, ray(v(0, 3, 9), v(0, -1, 0), 0), api.Found{Which: 2, T: 2})
}

func TestLeast(t *testing.T) {
	at := func(least float64) api.Ray { return ray(v(0, 0, -5), v(0, 0, 2), least) }
	grown := shapesOf(ball(v(0, 0, 0), 1), ball(v(0, 0, 5), 1)).build(t)
	wantFound(t, "from 0 on", grown, at(0), api.Found{T: 2})
	wantFound(t, "from -0 on", grown, at(minus0), api.Found{T: 2})
	wantFound(t, "just from there on", grown, at(2), api.Found{T: 2})
	wantFound(t, "just beyond it", grown, at(next(2)), api.Found{T: 3})
	wantFound(t, "just beyond it all", grown, at(next(3)), api.Found{Which: 1, T: 4.5})
	wantFound(t, "just from its end on", grown, at(5.5), api.Found{Which: 1, T: 5.5})
	wantNothing(t, "beyond all", grown, at(next(5.5)), api.OK)
	wantNothing(t, "far beyond all", grown, at(api.MaxReach), api.OK)
}

// Where the ray begins, T is 0, and nothing is nearer than 0.
func TestAtTheBeginning(t *testing.T) {
	grown := shapesOf(bar(2, 3), plate(v(0, 0, 0), v(0, 0, 1), 1)).build(t)
	for _, least := range []float64{0, minus0} {
		f, e := grown.Nearest(along(least))
		if e != api.OK || f.Which != 1 || f.T != 0 {
			t.Errorf("Nearest at the beginning: %v, %d", f, e)
		}
		for far, want := range map[float64]bool{0: false, minus0: false, 5e-324: true, -5e-324: false, inf: true, none: false} {
			if any, e := grown.Any(along(least), far); any != want || e != api.OK {
				t.Errorf("Any at the beginning up to %v: %t, %d, not %t", far, any, e, want)
			}
		}
	}
}

// T goes up to MaxFar, and is what Strike tells, to the bit.
func TestFarAway(t *testing.T) {
	slow := ray(v(0, 0, -api.MaxReach), v(0, 0, 1/api.MaxReach), 0)
	grown := shapesOf(ball(v(0.3, 0.2, 0.1), 0.7), bar(0, 1)).build(t)
	want, _ := all{shapes: []api.Shape{ball(v(0.3, 0.2, 0.1), 0.7), bar(0, 1)}}.oneByOne(slow)
	wantFound(t, "from far away", grown, slow, want)
	edge := shapesOf(bar(api.MaxReach-1, api.MaxReach), bar(-api.MaxReach, 1-api.MaxReach)).build(t)
	wantFound(t, "up to the edge of reach", edge, along(0), api.Found{T: api.MaxReach - 1})
	wantFound(t, "down to the edge of reach", edge, ray(v(0, 0, 0), v(0, 0, -1), 0), api.Found{Which: 1, T: api.MaxReach - 1})
	beyondFar := shapesOf(bar(0.5, 1)).build(t)
	wantNothing(t, "farther than any ray goes", beyondFar, slow, api.OK)
}

func TestBadRays(t *testing.T) {
	z := v(0, 0, 1)
	trees := []all{{}, shapesOf(bar(-1, 2)), {[]api.Shape{bar(-1, 2)}, []api.Solid{of(leaf(bar(-1, 2)))}, []api.Field{wall(1)}}}
	for want, rays := range map[api.Errno][]api.Ray{
		api.ErrReach: {
			ray(v(0, beyond, 0), z, 0), ray(v(0, 0, 0), v(0, none, 1), 0), ray(v(0, 0, 0), z, inf), ray(v(0, 0, 0), z, none),
			ray(v(0, 0, -inf), z, 0), ray(v(0, 0, 0), v(tiny, 0, 1), 0), ray(v(0, none, 0), v(0, 0, 0), -1), ray(v(0, 0, 0), v(0, 0, 0), beyond),
			ray(v(0, 0, 0), v(0, -tiny, 0), -1), ray(v(0, 0, 0), v(inf, 0, 0), -1),
		},
		api.ErrZero:  {ray(v(0, 0, 0), v(0, 0, 0), 0), ray(v(0, 0, 0), v(0, minus0, 0), -1)},
		api.ErrValue: {ray(v(0, 0, 0), z, -1), ray(v(0, 0, 0), z, -5e-324), ray(v(9, 9, 9), z, -api.MaxReach)},
	} {
		for _, r := range rays {
			for _, a := range trees {
				wantNothing(t, "a bad ray", a.build(t), r, want)
			}
		}
	}
}

// held: what many trees of so many things say, held against all things one by one. How many rays strike nothing, one thing, several.
func held(t *testing.T, d *die, trees, shapes, solids, fields int) (counts [3]int) {
	t.Helper()
	for range trees {
		a := d.things(shapes, solids, fields)
		grown := a.build(t)
		for range 40 {
			r := d.aimed(a)
			want, struck := a.oneByOne(r)
			counts[min(struck, 2)]++
			f, e := grown.Nearest(r)
			if e != api.OK || !sameFound(f, want) {
				t.Fatalf("Nearest of %v by %v: %v, %d, not %v", a, r, f, e, want)
			}
			for _, far := range []float64{want.T, next(want.T), ahead(want.T), 0, -1, inf, none, d.number(4, false), 1} {
				any, e := grown.Any(r, far)
				if e != api.OK || any != (want.Which >= 0 && want.T < far) {
					t.Fatalf("Any of %v by %v up to %v: %t, %d, but %v is found", a, r, far, any, e, want)
				}
			}
		}
	}
	return counts
}

func TestNearestIsTheFirstOfAll(t *testing.T) {
	d := die(17)
	for _, c := range []struct {
		what                          string
		trees, shapes, solids, fields int
	}{
		{"shapes", 150, api.MaxShapes, 0, 0},
		{"few shapes", 300, 6, 0, 0},
		{"solids", 200, 0, api.MaxSolids, 0},
		{"fields", 250, 0, 0, api.MaxFields},
		{"all", 100, api.MaxShapes, api.MaxSolids, api.MaxFields},
		{"few of all", 100, 3, 2, 1},
	} {
		counts := held(t, &d, c.trees, c.shapes, c.solids, c.fields)
		for struck, count := range counts {
			if count < 100 {
				t.Errorf("%s: only %d rays strike %d: the test tells little: %v", c.what, count, struck, counts)
			}
		}
	}
}

// What a tree answers hangs on the ray alone, not on the rays ahead.
func TestTheSameAgain(t *testing.T) {
	d := die(19)
	a := d.things(40, 8, 2)
	grown := a.build(t)
	rays := d.rays(a, 100)
	want := tell(grown, rays)
	if got := tell(grown, rays); got != want {
		t.Errorf("the same rays again: %s, not %s", got, want)
	}
}
