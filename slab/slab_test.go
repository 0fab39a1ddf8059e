package slab_test

import (
	"math"
	"testing"

	"rayhouse/api"
	"rayhouse/slab"
)

var (
	minus0 = math.Copysign(0, -1)
	inf    = math.Inf(1)
	none   = math.NaN()
	beyond = math.Nextafter(api.MaxReach, inf)
	tiny   = math.Nextafter(1/api.MaxReach, 0)
)

// same: the same bits; of floats that are no number it does not matter which one it is.
func same(a, b float64) bool {
	return math.Float64bits(a) == math.Float64bits(b) || a != a && b != b
}

func sameVec(a, b api.Vec) bool {
	return same(a.X, b.X) && same(a.Y, b.Y) && same(a.Z, b.Z)
}

func v(x, y, z float64) api.Vec {
	return api.Vec{X: x, Y: y, Z: z}
}

func ray(from, dir api.Vec, least float64) api.Ray {
	return api.Ray{From: from, Dir: dir, Least: least}
}

func box(lo, hi api.Vec) api.Box {
	return api.Box{Lo: lo, Hi: hi}
}

// cube: from -1 to 1.
func cube() api.Box {
	return box(v(-1, -1, -1), v(1, 1, 1))
}

// spread: v with x at each of its places in turn.
func spread(w api.Vec, x float64) []api.Vec {
	return []api.Vec{v(x, w.Y, w.Z), v(w.X, x, w.Z), v(w.X, w.Y, x)}
}

func outOfReach() []float64 {
	return []float64{beyond, -beyond, inf, -inf, none}
}

// S1

func TestFine(t *testing.T) {
	edge := v(api.MaxReach, -api.MaxReach, minus0)
	for _, c := range []struct {
		what string
		r    api.Ray
		want api.Errno
	}{
		{"an ordinary ray", ray(v(1, 2, 3), v(0, 0.5, -2), 0.001), api.OK},
		{"at the edge of reach", ray(edge, edge, api.MaxReach), api.OK},
		{"a Least of nought with a sign", ray(v(0, 0, 0), v(1, 0, 0), minus0), api.OK},
		{"noughts with a sign in Dir", ray(v(0, 0, 0), v(minus0, 1, minus0), 0), api.OK},
		{"just Clean", ray(v(0, 0, 0), v(1/api.MaxReach, -1/api.MaxReach, 0), 0), api.OK},
		{"no Dir", ray(v(1, 2, 3), v(0, 0, 0), 0), api.ErrZero},
		{"no Dir, with signs", ray(v(1, 2, 3), v(minus0, 0, minus0), 0), api.ErrZero},
		{"Least below 0", ray(v(0, 0, 0), v(1, 0, 0), -5e-324), api.ErrValue},
		{"Least at the edge, below 0", ray(v(0, 0, 0), v(1, 0, 0), -api.MaxReach), api.ErrValue},
		{"reach is asked ahead of nought", ray(v(none, 0, 0), v(0, 0, 0), -1), api.ErrReach},
		{"nought is asked ahead of Least", ray(v(0, 0, 0), v(0, 0, 0), -1), api.ErrZero},
		{"Clean is asked ahead of Least", ray(v(0, 0, 0), v(1, tiny, 0), -1), api.ErrReach},
	} {
		if got := slab.Fine(c.r); got != c.want {
			t.Errorf("Fine of %s: %d, not %d", c.what, got, c.want)
		}
	}
}

func TestFineAsksEachNumber(t *testing.T) {
	ok := ray(v(1, 2, 3), v(4, 5, 6), 7)
	for _, x := range outOfReach() {
		bad := []api.Ray{ray(ok.From, ok.Dir, x)}
		for i := range 3 {
			bad = append(bad, ray(spread(ok.From, x)[i], ok.Dir, 7), ray(ok.From, spread(ok.Dir, x)[i], 7))
		}
		for _, r := range bad {
			if got := slab.Fine(r); got != api.ErrReach {
				t.Errorf("Fine of %v: %d", r, got)
			}
		}
	}
	for _, x := range []float64{tiny, -tiny, 5e-324, -5e-324} {
		for _, d := range spread(ok.Dir, x) {
			if got := slab.Fine(ray(ok.From, d, 0)); got != api.ErrReach {
				t.Errorf("Fine along %v, which isn't Clean: %d", d, got)
			}
		}
		// Not nought, though Clean would make nought of it.
		if got := slab.Fine(ray(ok.From, v(x, 0, 0), 0)); got != api.ErrReach {
			t.Errorf("Fine along %v alone: %d", x, got)
		}
	}
}

func TestMay(t *testing.T) {
	edge := api.MaxReach
	for _, c := range []struct {
		what string
		b    api.Box
		want api.Errno
	}{
		{"a cube", cube(), api.OK},
		{"all there is", box(v(-edge, -edge, -edge), v(edge, edge, edge)), api.OK},
		{"a point", box(v(1, 2, 3), v(1, 2, 3)), api.OK},
		{"noughts of both signs", box(v(0, 0, 0), v(minus0, minus0, minus0)), api.OK},
		{"X the wrong way about", box(v(1, 0, 0), v(math.Nextafter(1, 0), 5, 5)), api.ErrValue},
		{"Y the wrong way about", box(v(0, 1, 0), v(5, -1, 5)), api.ErrValue},
		{"Z the wrong way about", box(v(0, 0, 1), v(5, 5, 0)), api.ErrValue},
		{"reach is asked first", box(v(3, 0, 0), v(0, 0, none)), api.ErrReach},
	} {
		if got := slab.May(c.b); got != c.want {
			t.Errorf("May of %s: %d, not %d", c.what, got, c.want)
		}
	}
	for _, x := range outOfReach() {
		for i := range 3 {
			for _, b := range []api.Box{box(spread(cube().Lo, x)[i], cube().Hi), box(cube().Lo, spread(cube().Hi, x)[i])} {
				if got := slab.May(b); got != api.ErrReach {
					t.Errorf("May of %v: %d", b, got)
				}
			}
		}
	}
}

// S2

type meeting struct {
	what      string
	b         api.Box
	r         api.Ray
	near, far float64
	ok        bool
}

func wantMeetings(t *testing.T, l []meeting) {
	t.Helper()
	for _, m := range l {
		near, far, ok := slab.Meets(m.b, m.r)
		if !same(near, m.near) || !same(far, m.far) || ok != m.ok {
			t.Errorf("%s: %v %v %v, not %v %v %v", m.what, near, far, ok, m.near, m.far, m.ok)
		}
	}
}

func TestMeets(t *testing.T) {
	wantMeetings(t, []meeting{
		{"the document's ray, at an edge alone", cube(), ray(v(0, 0, -5), v(0.25, 0, 1), 0), 4, 4, true},
		{"straight through", cube(), ray(v(0, 0, -5), v(0, 0, 2), 0), 2, 3, true},
		{"straight back", cube(), ray(v(0, 0, 5), v(0, 0, -2), 0), 2, 3, true},
		{"along X", cube(), ray(v(-3, 0, 0), v(1, 0, 0), 0), 2, 4, true},
		{"along Y backward", cube(), ray(v(0, 3, 0), v(0, -1, 0), 0), 2, 4, true},
		{"aslant: the latest in, the first out", box(v(0, 0, 0), v(4, 2, 8)), ray(v(-1, -3, -2), v(1, 2, 4), 0), 1.5, 2.5, true},
		{"aslant backward", box(v(0, 0, 0), v(4, 2, 8)), ray(v(5, 5, 10), v(-1, -2, -4), 0), 1.5, 2.5, true},
		{"from within", cube(), ray(v(0, 0, 0), v(0, 0, 1), 0), 0, 1, true},
		{"from Least on", cube(), ray(v(0, 0, -5), v(0, 0, 1), 5.5), 5.5, 6, true},
		{"Least at its end", cube(), ray(v(0, 0, -5), v(0, 0, 1), 6), 6, 6, true},
		{"Least behind it", cube(), ray(v(0, 0, -5), v(0, 0, 1), math.Nextafter(6, 7)), 0, 0, false},
		{"behind the ray", cube(), ray(v(0, 0, 5), v(0, 0, 1), 0), 0, 0, false},
		{"going by", cube(), ray(v(0, 0, -5), v(1, 0, 1), 0), 0, 0, false},
		// Worked out elsewhere: neither the product with 1 / Dir nor the difference of two quotients gives these bits.
		{"rounded as it is written", box(v(-0.8, 1.4, -1.5), v(0.4, 4.2, 0.6)), ray(v(1.8, 3, -0.8), v(-0.9, 0.3, -0.4), 0), 1.5555555555555554, 1.7499999999999998, true},
	})
}

func TestMeetsAtTheEdges(t *testing.T) {
	edge := api.MaxReach
	all := box(v(-edge, -edge, -edge), v(edge, edge, edge))
	wantMeetings(t, []meeting{
		{"along a side", cube(), ray(v(1, 0, -5), v(0, 0, 1), 0), 4, 6, true},
		{"along an edge", cube(), ray(v(1, -1, -5), v(0, 0, 1), 0), 4, 6, true},
		{"just beside a side", cube(), ray(v(math.Nextafter(1, 2), 0, -5), v(0, 0, 1), 0), 0, 0, false},
		{"just beside the other side", cube(), ray(v(0, math.Nextafter(-1, -2), -5), v(0, 0, 1), 0), 0, 0, false},
		{"beside it in the third number", cube(), ray(v(0, 0, 1.5), v(1, 0, 0), 0), 0, 0, false},
		{"a corner alone", cube(), ray(v(-3, 1, 1), v(1, 1, -1), 0), 0, 0, false},
		{"a corner alone, struck", cube(), ray(v(-3, -1, -1), v(2, 1, 1), 0), 1, 2, true},
		{"the corner itself", cube(), ray(v(-2, 0, 2), v(1, 1, -1), 0), 1, 1, true},
		{"a point", box(v(1, 2, 3), v(1, 2, 3)), ray(v(0, 0, 0), v(0.5, 1, 1.5), 0), 2, 2, true},
		{"a point from itself", box(v(1, 2, 3), v(1, 2, 3)), ray(v(1, 2, 3), v(1, 0, 0), 0), 0, 0, true},
		{"a nought with a sign in Dir", cube(), ray(v(0, 0, -5), v(minus0, minus0, 1), 0), 4, 6, true},
		{"a nought with a sign in Dir, beside", cube(), ray(v(0, 2, -5), v(0, minus0, 1), 0), 0, 0, false},
		{"far away", all, ray(v(-edge, 0, 0), v(1/edge, 0, 0), 0), 0, 1e12, true},
		{"no farther than MaxFar", box(v(1, -1, -1), v(edge, 1, 1)), ray(v(-edge, 0, 0), v(1/edge, 0, 0), 0), 0, 0, false},
		{"just as far as MaxFar", box(v(0, -1, -1), v(edge, 1, 1)), ray(v(-edge, 0, 0), v(1/edge, 0, 0), 0), 1e12, 1e12, true},
		// A Least of -0 is not less than the 0 at which the box begins: it stays.
		{"a Least of nought with a sign", box(v(0, 0, 0), v(1, 1, 1)), ray(v(0, 0.5, 0.5), v(1, 0, 0), minus0), minus0, 1, true},
		{"a nought with a sign at the far end", box(v(-1, -1, -1), v(0, 1, 1)), ray(v(0, 0, 0), v(1, 0, 0), 0), 0, 0, true},
		{"of two noughts at the far end the first stays", box(v(-1, 0, -1), v(0, 1, 1)), ray(v(0, 0, 0), v(1, -1, 0), 0), 0, 0, true},
		{"the formula's own sign of nought", box(v(0, -1, -1), v(1, 1, 1)), ray(v(0, 0, 0), v(-1, 0, 0), 0), 0, minus0, true},
	})
}

func TestMeetsNothingThatMayNotBe(t *testing.T) {
	in := ray(v(0, 0, -5), v(0, 0, 1), 0)
	wantMeetings(t, []meeting{
		{"a box the wrong way about", box(v(0, 0, 1), v(0, 0, -1)), in, 0, 0, false},
		{"a box out of reach", box(v(-1, -1, -1), v(1, 1, inf)), in, 0, 0, false},
		{"a box of no number", box(v(none, -1, -1), v(1, 1, 1)), in, 0, 0, false},
		{"a ray out of reach", cube(), ray(v(0, 0, -beyond), v(0, 0, 1), 0), 0, 0, false},
		{"a ray along nothing, within", cube(), ray(v(0, 0, 0), v(0, 0, 0), 0), 0, 0, false},
		{"a ray that isn't Clean", cube(), ray(v(0, 0, -5), v(0, tiny, 1), 0), 0, 0, false},
		{"a ray with Least below 0", cube(), ray(v(0, 0, -5), v(0, 0, 1), -1), 0, 0, false},
		{"a ray with no Least", cube(), ray(v(0, 0, -5), v(0, 0, 1), none), 0, 0, false},
	})
}

// S3

func wantBox(t *testing.T, what string, got, want api.Box) {
	t.Helper()
	if !sameVec(got.Lo, want.Lo) || !sameVec(got.Hi, want.Hi) {
		t.Errorf("%s: %v, not %v", what, got, want)
	}
}

func TestJoin(t *testing.T) {
	a, b := box(v(-1, 2, -3), v(4, 5, 6)), box(v(-2, 3, -1), v(1, 9, 6.5))
	both := box(v(-2, 2, -3), v(4, 9, 6.5))
	wantBox(t, "Join", slab.Join(a, b), both)
	wantBox(t, "Join, the other way about", slab.Join(b, a), both)
	wantBox(t, "Join with itself", slab.Join(a, a), a)
	plus, minus := box(v(0, 0, minus0), v(0, minus0, 0)), box(v(minus0, 0, 0), v(minus0, 0, 0))
	wantBox(t, "of two noughts a's stays", slab.Join(plus, minus), plus)
	wantBox(t, "of two noughts a's stays", slab.Join(minus, plus), minus)
	// Join asks nothing of its boxes.
	wantBox(t, "any floats", slab.Join(box(v(inf, 9, -inf), v(-inf, -9, inf)), box(v(3, 8, 3), v(3, 8, 3))), box(v(3, 8, -inf), v(3, 8, inf)))
}

func TestInside(t *testing.T) {
	if !slab.Inside(cube(), cube()) {
		t.Error("a cube isn't inside itself")
	}
	if !slab.Inside(box(v(0, 0, 0), v(0, 0, 0)), box(v(0, 0, 0), v(minus0, minus0, minus0))) || !slab.Inside(box(v(minus0, 0, 0), v(0, 0, 0)), box(v(0, 0, 0), v(minus0, 0, 0))) {
		t.Error("the sign of a nought is held against it")
	}
	for i := range 3 {
		if low := box(spread(cube().Lo, math.Nextafter(-1, -2))[i], cube().Hi); slab.Inside(low, cube()) || !slab.Inside(cube(), low) {
			t.Errorf("Inside of %v", low)
		}
		if high := box(cube().Lo, spread(cube().Hi, math.Nextafter(1, 2))[i]); slab.Inside(high, cube()) || !slab.Inside(cube(), high) {
			t.Errorf("Inside of %v", high)
		}
	}
	// What is asked is whether a number is below, or above: boxes may be any.
	if !slab.Inside(box(v(5, 5, 5), v(-5, -5, -5)), cube()) || slab.Inside(box(v(-inf, 0, 0), v(0, 0, 0)), cube()) {
		t.Error("Inside of boxes that may not be")
	}
}

// What meets a box meets each box around it, not nearer to its far end, nor farther from its near one.
func TestMeetsBoxesAround(t *testing.T) {
	n := uint64(11)
	num := func() float64 {
		n = n*6364136223846793005 + 1442695040888963407
		return float64(int(n>>33)%8001-4000) / 1000
	}
	met := 0
	for range 3000 {
		p, q := v(num(), num(), num()), v(num(), num(), num())
		a := slab.Join(box(p, p), box(q, q))
		b := slab.Join(a, box(v(num(), num(), num()), q))
		if !slab.Inside(a, b) {
			t.Fatalf("%v isn't inside %v", a, b)
		}
		r := ray(v(num(), num(), num()), v(num(), num(), num()), 0)
		near, far, ok := slab.Meets(a, r)
		if !ok {
			continue
		}
		met++
		if least, most, also := slab.Meets(b, r); !also || least > near || most < far {
			t.Fatalf("%v meets %v at %v, %v; %v at %v, %v, %v", r, a, near, far, b, least, most, also)
		}
	}
	if met < 100 {
		t.Errorf("only %d met", met)
	}
}
