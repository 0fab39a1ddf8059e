package field_test

import (
	"fmt"
	"math"
	"slices"
	"testing"

	"rayhouse/api"
	"rayhouse/field"
	"rayhouse/shape"
	"rayhouse/slab"
)

var (
	minus0 = math.Copysign(0, -1)
	inf    = math.Inf(1)
	none   = math.NaN()
	beyond = math.Nextafter(api.MaxReach, inf)
	tiny   = math.Nextafter(1/api.MaxReach, 0)
)

// same: the same bits; of floats that are no number it does not matter which one it is.
func same(a, b float64) bool {
	return math.Float64bits(a) == math.Float64bits(b) || a != a && b != b
}

func sameVec(a, b api.Vec) bool {
	return same(a.X, b.X) && same(a.Y, b.Y) && same(a.Z, b.Z)
}

func v(x, y, z float64) api.Vec {
	return api.Vec{X: x, Y: y, Z: z}
}

func ray(from, dir api.Vec, least float64) api.Ray {
	return api.Ray{From: from, Dir: dir, Least: least}
}

// next: the next float above x.
func next(x float64) float64 {
	return math.Nextafter(x, inf)
}

func grid(w, h int, at api.Vec, side float64, high ...int) api.Field {
	return api.Field{W: w, H: h, At: at, Side: side, High: high}
}

// flat: a field of w by h points without heights, from 0 on, 1 apart.
func flat(w, h int) api.Field {
	return grid(w, h, v(0, 0, 0), 1, make([]int, w*h)...)
}

// E1

func TestMayOfGrids(t *testing.T) {
	for n, want := range map[int]api.Errno{
		2: api.OK, 3: api.OK, api.MaxGrid - 1: api.OK, api.MaxGrid: api.OK,
		1: api.ErrLimit, 0: api.ErrLimit, -1: api.ErrLimit, -2: api.ErrLimit, api.MaxGrid + 1: api.ErrLimit,
		math.MaxInt: api.ErrLimit, math.MinInt: api.ErrLimit, 1 << 32: api.ErrLimit,
	} {
		high := make([]int, max(0, min(2*api.MaxGrid+2, 2*n)))
		if e := field.May(api.Field{W: n, H: 2, Side: 1, High: high}); e != want {
			t.Errorf("May with W %d: %d, not %d", n, e, want)
		}
		if e := field.May(api.Field{W: 2, H: n, Side: 1, High: high}); e != want {
			t.Errorf("May with H %d: %d, not %d", n, e, want)
		}
	}
	if e := field.May(flat(api.MaxGrid, api.MaxGrid)); e != api.OK {
		t.Errorf("May of the greatest grid: %d", e)
	}
	// So great that their product is 8, the bits beyond being lost.
	if e := field.May(api.Field{W: 1<<62 + 2, H: 4, Side: 1, High: make([]int, 8)}); e != api.ErrLimit {
		t.Errorf("May of a grid that is far too great: %d", e)
	}
}

func TestMayOfCounts(t *testing.T) {
	for _, size := range [][2]int{{2, 2}, {2, 5}, {5, 2}, {api.MaxGrid, api.MaxGrid}} {
		n := size[0] * size[1]
		for count, want := range map[int]api.Errno{n: api.OK, n - 1: api.ErrCount, n + 1: api.ErrCount, 0: api.ErrCount, 2 * n: api.ErrCount} {
			if e := field.May(grid(size[0], size[1], v(0, 0, 0), 1, make([]int, count)...)); e != want {
				t.Errorf("May of %v with %d heights: %d, not %d", size, count, e, want)
			}
		}
	}
}

func TestMayOfNumbers(t *testing.T) {
	for skin, want := range map[int]api.Errno{
		0: api.OK, api.MaxSkins - 1: api.OK,
		-1: api.ErrLimit, api.MaxSkins: api.ErrLimit, math.MaxInt: api.ErrLimit, math.MinInt: api.ErrLimit,
	} {
		f := flat(2, 2)
		f.Skin = skin
		if e := field.May(f); e != want {
			t.Errorf("May with the skin %d: %d, not %d", skin, e, want)
		}
	}
	for _, x := range []float64{beyond, -beyond, inf, -inf, none} {
		for _, at := range []api.Vec{v(x, 0, 0), v(0, x, 0), v(0, 0, x)} {
			if e := field.May(grid(2, 2, at, 1, 0, 0, 0, 0)); e != api.ErrReach {
				t.Errorf("May at %v: %d, not ErrReach", at, e)
			}
		}
		if e := field.May(grid(2, 2, v(0, 0, 0), x, 0, 0, 0, 0)); e != api.ErrReach {
			t.Errorf("May with the side %v: %d, not ErrReach", x, e)
		}
	}
	for side, want := range map[float64]api.Errno{
		0: api.ErrValue, -5e-324: api.ErrValue, -1: api.ErrValue, -api.MaxReach: api.ErrValue,
		5e-324: api.OK, 1: api.OK, api.MaxReach: api.OK,
	} {
		if e := field.May(grid(2, 2, v(0, 0, 0), side, 0, 0, 0, 0)); e != want {
			t.Errorf("May with the side %v: %d, not %d", side, e, want)
		}
	}
	if e := field.May(grid(2, 2, v(0, 0, 0), minus0, 0, 0, 0, 0)); e != api.ErrValue {
		t.Errorf("May with the side -0: %d", e)
	}
}

func TestMayOfHeights(t *testing.T) {
	for high, want := range map[int]api.Errno{
		api.MaxWhole: api.OK, -api.MaxWhole: api.OK,
		api.MaxWhole + 1: api.ErrValue, -api.MaxWhole - 1: api.ErrValue, math.MaxInt: api.ErrValue, math.MinInt: api.ErrValue,
	} {
		for i := range 6 {
			f := flat(3, 2)
			f.High[i] = high
			if e := field.May(f); e != want {
				t.Errorf("May with the height %d at %d: %d, not %d", high, i, e, want)
			}
		}
	}
}

func TestMayOfReach(t *testing.T) {
	far := api.MaxReach
	for _, c := range []struct {
		what string
		f    api.Field
		want api.Errno
	}{
		{"up to the edge of reach in X", grid(3, 2, v(far-2, 0, 0), 1, 0, 0, 0, 0, 0, 0), api.OK},
		{"beyond reach in X", grid(3, 2, v(next(far-2), 0, 0), 1, 0, 0, 0, 0, 0, 0), api.ErrReach},
		{"up to the edge of reach in Z", grid(2, 3, v(0, 0, far-2), 1, 0, 0, 0, 0, 0, 0), api.OK},
		{"beyond reach in Z", grid(2, 3, v(0, 0, next(far-2)), 1, 0, 0, 0, 0, 0, 0), api.ErrReach},
		{"X counts by W", grid(3, 2, v(0, 0, far-1), 1, 0, 0, 0, 0, 0, 0), api.OK},
		{"Z counts by H", grid(2, 3, v(far-1, 0, 0), 1, 0, 0, 0, 0, 0, 0), api.OK},
		{"from the edge of reach on", grid(3, 3, v(-far, -far, -far), far, 0, 0, 0, 0, 0, 0, 0, 0, 0), api.OK},
		{"with a side that is too great", grid(4, 2, v(-far, 0, 0), far, 0, 0, 0, 0, 0, 0, 0, 0), api.ErrReach},
		{"with a side that is lost", grid(8, 2, v(far, far, far), 1e-12, make([]int, 16)...), api.OK},
		{"up to the edge of reach in Y", grid(2, 2, v(0, far-1, 0), 1, 0, 0, 1000, 0), api.OK},
		{"beyond reach in Y", grid(2, 2, v(0, far-1, 0), 1, 0, 0, 0, 1001), api.ErrReach},
		{"up to the edge of reach in Y, downward", grid(2, 2, v(0, 1-far, 0), 1, -1000, 0, 0, 0), api.OK},
		{"beyond reach in Y, downward", grid(2, 2, v(0, 1-far, 0), 1, 0, -1001, 0, 0), api.ErrReach},
		{"from beyond reach on, with all heights within it", grid(2, 2, v(0, beyond, 0), 1, -1, -1, -1, -1), api.ErrReach},
		{"with the greatest heights", grid(2, 2, v(0, far-1000, 0), 1, api.MaxWhole, -api.MaxWhole, 0, 0), api.OK},
	} {
		if got := field.May(c.f); got != c.want {
			t.Errorf("May of a field %s: %d, not %d", c.what, got, c.want)
		}
	}
}

// refused: a field that may not be, and what is said of it.
type refused struct {
	f    api.Field
	want api.Errno
}

// allRefused: in the order of the faults: each has all the faults that come later, too.
func allRefused() []refused {
	f := api.Field{W: 2, H: 9, At: v(none, 0, 0), Side: -inf, High: []int{api.MaxWhole + 1}, Skin: -1}
	l := []refused{{f, api.ErrLimit}}
	f.W, f.H = 1, 2
	l = append(l, refused{f, api.ErrLimit})
	f.W = 2
	l = append(l, refused{f, api.ErrCount})
	f.High = []int{0, 0, 0, -api.MaxWhole - 1}
	l = append(l, refused{f, api.ErrLimit})
	f.Skin = 0
	l = append(l, refused{f, api.ErrReach})
	f.Side = -1
	l = append(l, refused{f, api.ErrReach})
	f.At, f.Side = v(api.MaxReach, 0, 0), -inf
	l = append(l, refused{f, api.ErrReach})
	f.Side = -1
	l = append(l, refused{f, api.ErrValue})
	f.Side = 1
	l = append(l, refused{f, api.ErrValue})
	f.High = []int{0, 0, 0, -api.MaxWhole}
	return append(l, refused{f, api.ErrReach})
}

// badRays: rays that may not be, and what is said of them.
func badRays() map[api.Errno][]api.Ray {
	x := v(1, 0, 0)
	return map[api.Errno][]api.Ray{
		api.ErrReach: {
			ray(v(0, beyond, 0), x, 0), ray(v(0, 0, 0), v(1, none, 0), 0), ray(v(0, 0, 0), x, inf),
			ray(v(0, 0, -inf), x, 0), ray(v(0, 0, 0), v(1, 0, tiny), 0), ray(v(0, none, 0), v(0, 0, 0), -1),
		},
		api.ErrZero:  {ray(v(0, 0, 0), v(0, minus0, 0), -1)},
		api.ErrValue: {ray(v(0, 0, 0), x, -1), ray(v(0, 0, 0), x, -5e-324)},
	}
}

func wantNothing(t *testing.T, f api.Field, r api.Ray, want api.Errno) {
	t.Helper()
	piece, at, ok, e := field.Strike(f, r)
	if e != want || ok || piece != 0 || !same(at, 0) {
		t.Errorf("Strike of %v by %v: %d, %v, %t, %d, not 0, 0, false and %d", f, r, piece, at, ok, e, want)
	}
}

// All calls say first what May says.
func TestRefused(t *testing.T) {
	for _, c := range allRefused() {
		if e := field.May(c.f); e != c.want {
			t.Errorf("May of %v: %d, not %d", c.f, e, c.want)
		}
		if b, e := field.Bounds(c.f); e != c.want || b != (api.Box{}) {
			t.Errorf("Bounds of %v: %v, %d, not 0 and %d", c.f, b, e, c.want)
		}
		if l, e := field.Pieces(c.f); e != c.want || len(l) != 0 {
			t.Errorf("Pieces of %v: %v, %d, not empty and %d", c.f, l, e, c.want)
		}
		wantNothing(t, c.f, ray(v(0.5, 5, 0.5), v(0, -1, 0), 0), c.want)
		for _, rays := range badRays() {
			for _, r := range rays {
				wantNothing(t, c.f, r, c.want)
			}
		}
	}
}

func TestBadRays(t *testing.T) {
	for want, rays := range badRays() {
		for _, r := range rays {
			wantNothing(t, flat(3, 3), r, want)
			// One that it would miss.
			wantNothing(t, grid(2, 2, v(0, 100, 0), 1, 0, 0, 0, 0), r, want)
		}
	}
}

// E2

func TestBounds(t *testing.T) {
	for _, c := range []struct {
		what string
		f    api.Field
		want api.Box
	}{
		{"without heights", flat(2, 2), api.Box{Hi: v(1, 0, 1)}},
		{"of the greatest grid", flat(api.MaxGrid, api.MaxGrid), api.Box{Hi: v(7, 0, 7)}},
		{"that is wide", grid(3, 2, v(1, 2, 3), 0.5, 0, 250, 0, -500, 0, 0), api.Box{Lo: v(1, 1.5, 3), Hi: v(2, 2.25, 3.5)}},
		{"that is long", grid(2, 3, v(1, 2, 3), 0.5, 1000, 0, 0, 0, 0, 0), api.Box{Lo: v(1, 2, 3), Hi: v(1.5, 3, 4)}},
		{"wholly above At", grid(2, 2, v(0, 0, 0), 1, 2000, 1000, 3000, 4000), api.Box{Lo: v(0, 1, 0), Hi: v(1, 4, 1)}},
		{"wholly below At", grid(2, 2, v(0, 0, 0), 1, -2000, -1000, -3000, -4000), api.Box{Lo: v(0, -4, 0), Hi: v(1, -1, 1)}},
		// 0 more than -0 is 0.
		{"from -0 on", grid(2, 2, v(minus0, minus0, minus0), 1, 0, 0, 0, 0), api.Box{Hi: v(1, 0, 1)}},
		{"up to 0", grid(2, 2, v(-1, -1, -1), 1, 1000, 1000, 1000, 1000), api.Box{Lo: v(-1, 0, -1)}},
		// Side by side, 0.1 makes other bits than 7 times it; so does a thousandth, 9 times, than 9 through 1000.
		{"rounded", grid(8, 8, v(0, 0, 0), 0.1, slices.Repeat([]int{9}, 64)...), api.Box{Lo: v(0, 0.009, 0), Hi: v(0.7000000000000001, 0.009, 0.7000000000000001)}},
		// 3 times 0.1 is rounded ahead of the sum.
		{"rounded one by one", grid(4, 4, v(-0.3, -0.009, -0.3), 0.1, slices.Repeat([]int{9}, 16)...), api.Box{Lo: v(-0.3, 0, -0.3), Hi: v(5.551115123125783e-17, 0, 5.551115123125783e-17)}},
	} {
		b, e := field.Bounds(c.f)
		if e != api.OK || !sameVec(b.Lo, c.want.Lo) || !sameVec(b.Hi, c.want.Hi) {
			t.Errorf("Bounds of a field %s: %v, %d, not %v", c.what, b, e, c.want)
		}
	}
}

func triangle(a, b, c api.Vec, skin int) api.Shape {
	return api.Shape{Kind: api.Tri, A: a, B: b, C: c, Skin: skin}
}

func sameShape(s, w api.Shape) bool {
	return s == w && sameVec(s.A, w.A) && sameVec(s.B, w.B) && sameVec(s.C, w.C)
}

func wantPieces(t *testing.T, what string, f api.Field, want []api.Shape) {
	t.Helper()
	l, e := field.Pieces(f)
	if e != api.OK || !slices.EqualFunc(l, want, sameShape) {
		t.Errorf("Pieces of %s: %v, %d, not %v", what, l, e, want)
	}
}

func TestPieces(t *testing.T) {
	wantPieces(t, "the least grid", flat(2, 2), []api.Shape{
		triangle(v(0, 0, 0), v(0, 0, 1), v(1, 0, 0), 0), triangle(v(1, 0, 0), v(0, 0, 1), v(1, 0, 1), 0),
	})
	f := grid(3, 3, v(10, 20, 30), 2, 0, 1000, 2000, 3000, 4000, 5000, 6000, 7000, 8500)
	f.Skin = 7
	p := func(i, k int, y float64) api.Vec { return v(10+2*float64(i), 20+y, 30+2*float64(k)) }
	wantPieces(t, "three by three", f, []api.Shape{
		triangle(p(0, 0, 0), p(0, 1, 3), p(1, 0, 1), 7), triangle(p(1, 0, 1), p(0, 1, 3), p(1, 1, 4), 7),
		triangle(p(1, 0, 1), p(1, 1, 4), p(2, 0, 2), 7), triangle(p(2, 0, 2), p(1, 1, 4), p(2, 1, 5), 7),
		triangle(p(0, 1, 3), p(0, 2, 6), p(1, 1, 4), 7), triangle(p(1, 1, 4), p(0, 2, 6), p(1, 2, 7), 7),
		triangle(p(1, 1, 4), p(1, 2, 7), p(2, 1, 5), 7), triangle(p(2, 1, 5), p(1, 2, 7), p(2, 2, 8.5), 7),
	})
	wantPieces(t, "three by two", grid(3, 2, v(minus0, 0, 0), 1, 0, 0, 1, 0, -1, 0), []api.Shape{
		triangle(v(0, 0, 0), v(0, 0, 1), v(1, 0, 0), 0), triangle(v(1, 0, 0), v(0, 0, 1), v(1, -0.001, 1), 0),
		triangle(v(1, 0, 0), v(1, -0.001, 1), v(2, 0.001, 0), 0), triangle(v(2, 0.001, 0), v(1, -0.001, 1), v(2, 0, 1), 0),
	})
	wantPieces(t, "two by three", grid(2, 3, v(0, minus0, 0), 1, 0, 0, 1, 0, -1, 0), []api.Shape{
		triangle(v(0, 0, 0), v(0, 0.001, 1), v(1, 0, 0), 0), triangle(v(1, 0, 0), v(0, 0.001, 1), v(1, 0, 1), 0),
		triangle(v(0, 0.001, 1), v(0, -0.001, 2), v(1, 0, 1), 0), triangle(v(1, 0, 1), v(0, -0.001, 2), v(1, 0, 2), 0),
	})
}

func TestPiecesOfTheGreatestGrid(t *testing.T) {
	f := grid(api.MaxGrid, api.MaxGrid, v(-0.3, 0, 1), 0.1, make([]int, api.MaxGrid*api.MaxGrid)...)
	for i := range f.High {
		f.High[i] = i * 9
	}
	l, e := field.Pieces(f)
	if e != api.OK || len(l) != 98 {
		t.Fatalf("Pieces of the greatest grid: %d, %d", len(l), e)
	}
	for i, s := range l {
		if e := shape.May(s); e != api.OK {
			t.Errorf("piece %d may not be: %d", i, e)
		}
	}
	// The point (3, 2) is that of the height 19.
	want := v(5.551115123125783e-17, 0.171, 1.2)
	if got := l[2*(2*7+3)].A; !sameVec(got, want) {
		t.Errorf("the point 3 of the row 2: %v, not %v", got, want)
	}
	if got, want := l[97].C, v(0.4000000000000001, 0.567, 1.7000000000000002); !sameVec(got, want) {
		t.Errorf("the last point: %v, not %v", got, want)
	}
}

// E3

// hills: three by three, the middle one 1 high.
func hills() api.Field {
	return grid(3, 3, v(0, 0, 0), 2, 0, 0, 0, 0, 1000, 0, 0, 0, 0)
}

func TestStrike(t *testing.T) {
	down, up := v(0, -1, 0), v(0, 1, 0)
	for _, c := range []struct {
		what  string
		f     api.Field
		r     api.Ray
		piece int
		t     float64
	}{
		{"the first piece", flat(2, 2), ray(v(0.25, 5, 0.25), down, 0), 0, 5},
		{"the second piece", flat(2, 2), ray(v(0.75, 5, 0.75), down, 0), 1, 5},
		{"from below", flat(2, 2), ray(v(0.75, -5, 0.75), up, 0), 1, 5},
		{"with a longer direction", flat(2, 2), ray(v(0.75, -5, 0.75), v(0, 4, 0), 0), 1, 1.25},
		{"the edge that both have", flat(2, 2), ray(v(0.5, 5, 0.5), down, 0), 0, 5},
		{"the edge that both have, from below", flat(2, 2), ray(v(0.25, -5, 0.75), up, 0), 0, 5},
		{"an edge between squares", flat(3, 2), ray(v(1, 5, 0.5), down, 0), 1, 5},
		{"an edge between rows", flat(2, 3), ray(v(0.5, 5, 1), down, 0), 1, 5},
		{"a point of six pieces", flat(3, 3), ray(v(1, 5, 1), down, 0), 1, 5},
		{"the last square", flat(8, 8), ray(v(6.75, 5, 6.75), down, 0), 97, 5},
		{"the first corner", flat(8, 8), ray(v(0, 5, 0), down, 0), 0, 5},
		{"the last corner", flat(8, 8), ray(v(7, 5, 7), down, 0), 97, 5},
		{"an outer edge", flat(8, 8), ray(v(7, 5, 0.5), down, 0), 13, 5},
		{"aslant", flat(3, 3), ray(v(-3.5, 4, 0.25), v(1, -1, 0), 0), 0, 4},
		{"from far away", flat(2, 2), ray(v(0.25, api.MaxReach, 0.25), v(0, -1/api.MaxReach, 0), 0), 0, api.MaxFar},
		{"the peak", hills(), ray(v(2, 5, 2), down, 0), 1, 4},
		{"a slope", hills(), ray(v(1, 5, 2), down, 0), 1, 4.5},
		{"a slope, along the field", hills(), ray(v(-3, 0.5, 2), v(1, 0, 0), 0), 1, 4},
		{"the slope behind, from within the hill", hills(), ray(v(2, 0.5, 2), v(1, 0, 0), 0), 3, 1},
		{"the slope behind, from beyond the first on", hills(), ray(v(-3, 0.5, 2), v(1, 0, 0), next(4)), 3, 6},
		{"the slope that is first is not of the first piece", hills(), ray(v(7, 0.5, 2), v(-1, 0, 0), 0), 3, 4},
		{"just from there on", flat(2, 2), ray(v(0.75, 5, 0.75), down, 5), 1, 5},
	} {
		piece, at, ok, e := field.Strike(c.f, c.r)
		if e != api.OK || !ok || piece != c.piece || !same(at, c.t) {
			t.Errorf("Strike, %s: %d, %v, %t, %d, not %d, %v", c.what, piece, at, ok, e, c.piece, c.t)
		}
	}
}

func TestStrikeNothing(t *testing.T) {
	down := v(0, -1, 0)
	for what, c := range map[string]struct {
		f api.Field
		r api.Ray
	}{
		"it is behind":                     {flat(2, 2), ray(v(0.25, -5, 0.25), down, 0)},
		"from beyond it on":                {flat(2, 2), ray(v(0.25, 5, 0.25), down, next(5))},
		"beside it in X":                   {flat(2, 2), ray(v(next(1), 5, 0.5), down, 0)},
		"beside it in Z":                   {flat(2, 2), ray(v(0.5, 5, -5e-324), down, 0)},
		"above it":                         {hills(), ray(v(-3, next(1), 2), v(1, 0, 0), 0)},
		"below it":                         {hills(), ray(v(-3, -5e-324, 2), v(1, 0, 0), 0)},
		"along a field without heights":    {flat(3, 3), ray(v(-3, 0, 0.5), v(1, 0, 0), 0)},
		"along an edge":                    {flat(3, 3), ray(v(-3, 0, 1), v(1, 0, 0), 0)},
		"through the box, above the slope": {hills(), ray(v(0.25, 0.75, -3), v(0, 0, 1), 0)},
		"in the hill, downward":            {hills(), ray(v(2, 0.5, 2), down, 0)},
		"from the last slope on":           {hills(), ray(v(-3, 0.5, 2), v(1, 0, 0), next(6))},
	} {
		if e := field.May(c.f); e != api.OK {
			t.Errorf("%s: May is %d", what, e)
		}
		wantNothing(t, c.f, c.r, api.OK)
	}
}

// die: numbers that look drawn, the same each time.
type die uint64

func (d *die) n(most int) int {
	*d = *d*6364136223846793005 + 1442695040888963407
	return int(uint64(*d>>33) % uint64(most))
}

// number: from -most to most, with many bits.
func (d *die) number(most float64) float64 {
	*d = *d*6364136223846793005 + 1442695040888963407
	return (float64(uint64(*d)>>11)/(1<<52) - 1) * most
}

func (d *die) point(most float64) api.Vec {
	return v(d.number(most), d.number(most), d.number(most))
}

// drawn: any field about 0; every third one is nearly flat.
func (d *die) drawn() api.Field {
	f := grid(2+d.n(7), 2+d.n(7), d.point(3), 0.5+d.number(0.4))
	most := []int{1, 400, 2000}[d.n(3)]
	for range f.W * f.H {
		f.High = append(f.High, d.n(2*most+1)-most)
	}
	return f
}

// one: the point of the i-th place of the k-th row, as E1 has it.
func one(f api.Field, i, k int) api.Vec {
	along, beyond := float64(float64(i)*f.Side), float64(float64(k)*f.Side)
	high := float64(f.High[k*f.W+i]) / 1000
	return v(f.At.X+along, f.At.Y+high, f.At.Z+beyond)
}

// firstStruck: one triangle after the other, without the box around all.
func firstStruck(f api.Field, r api.Ray) string {
	piece, least, found := 0, 0.0, false
	for n := range 2 * (f.W - 1) * (f.H - 1) {
		i, k := n/2%(f.W-1), n/2/(f.W-1)
		s := triangle(one(f, i, k), one(f, i, k+1), one(f, i+1, k), f.Skin)
		if n%2 == 1 {
			s = triangle(one(f, i+1, k), one(f, i, k+1), one(f, i+1, k+1), f.Skin)
		}
		at, ok, _ := shape.Strike(s, r)
		if ok && (!found || at < least) {
			piece, least, found = n, at, true
		}
	}
	return fmt.Sprint(piece, math.Float64bits(least), found)
}

// aimed: a ray to some point of the field, from near or far, from above or below.
func (d *die) aimed(f api.Field) api.Ray {
	from, to := d.point([]float64{2, 8}[d.n(2)]), one(f, d.n(f.W), d.n(f.H))
	if d.n(2) == 0 {
		to = v(to.X+d.number(0.5), to.Y, to.Z+d.number(0.5))
	}
	return ray(from, v(to.X-from.X, to.Y-from.Y, to.Z-from.Z), []float64{0, minus0, 0.5, 1}[d.n(4)])
}

func TestStrikeIsTheFirstOfAll(t *testing.T) {
	d := die(29)
	struck := 0
	for range 5000 {
		f := d.drawn()
		r := d.aimed(f)
		piece, at, ok, e := field.Strike(f, r)
		if slab.Fine(r) != e {
			t.Fatalf("Strike of %v by %v: %d", f, r, e)
		}
		if got, want := fmt.Sprint(piece, math.Float64bits(at), ok), firstStruck(f, r); got != want {
			t.Fatalf("Strike of %v by %v: %s, not %s", f, r, got, want)
		}
		if ok {
			struck++
		}
	}
	if struck < 500 || struck > 4500 {
		t.Errorf("%d of 5000 are struck: the test tells little", struck)
	}
}

// Nothing slips through between the pieces: what comes straight down within the outline strikes one of them.
func TestNothingSlipsThrough(t *testing.T) {
	d := die(31)
	for range 3000 {
		f := d.drawn()
		a := one(f, d.n(f.W), d.n(f.H))
		b := one(f, d.n(f.W), d.n(f.H))
		// Points, edges, and what lies between.
		at := v((a.X+b.X)/2, 10, (a.Z+b.Z)/2)
		if d.n(2) == 0 {
			k := (d.number(1) + 1) / 2
			at = v(a.X+float64(k*(b.X-a.X)), 10, b.Z+float64(k*(a.Z-b.Z)))
		}
		if _, _, ok, e := field.Strike(f, ray(at, v(0, -1, 0), 0)); e != api.OK || !ok {
			t.Fatalf("straight down from %v nothing of %v is struck: %d", at, f, e)
		}
	}
}

// Nothing that is handed in is written into, and what comes out is the caller's.
func TestListsAreOnesOwn(t *testing.T) {
	f := hills()
	before := slices.Clone(f.High)
	l, _ := field.Pieces(f)
	again := slices.Clone(l)
	clear(l[:cap(l)])
	wantPieces(t, "the same field again", f, again)
	field.Bounds(f)
	field.Strike(f, ray(v(2, 5, 2), v(0, -1, 0), 0))
	if !slices.Equal(f.High, before) {
		t.Errorf("the heights became %v", f.High)
	}
}
