package shape_test

import (
	"math"
	"testing"

	"rayhouse/api"
	"rayhouse/shape"
)

var (
	minus0 = math.Copysign(0, -1)
	inf    = math.Inf(1)
	none   = math.NaN()
	beyond = math.Nextafter(api.MaxReach, inf)
	tiny   = math.Nextafter(1/api.MaxReach, 0)
)

// same: the same bits; of floats that are no number it does not matter which one it is.
func same(a, b float64) bool {
	return math.Float64bits(a) == math.Float64bits(b) || a != a && b != b
}

func sameVec(a, b api.Vec) bool {
	return same(a.X, b.X) && same(a.Y, b.Y) && same(a.Z, b.Z)
}

func v(x, y, z float64) api.Vec {
	return api.Vec{X: x, Y: y, Z: z}
}

func ray(from, dir api.Vec, least float64) api.Ray {
	return api.Ray{From: from, Dir: dir, Least: least}
}

// next: the next float above x.
func next(x float64) float64 {
	return math.Nextafter(x, inf)
}

// ahead: the next float below x.
func ahead(x float64) float64 {
	return math.Nextafter(x, -inf)
}

func ball(a api.Vec, r float64) api.Shape {
	return api.Shape{Kind: api.Ball, A: a, R: r}
}

func block(a, b api.Vec) api.Shape {
	return api.Shape{Kind: api.Block, A: a, B: b}
}

func triangle(a, b, c api.Vec) api.Shape {
	return api.Shape{Kind: api.Tri, A: a, B: b, C: c}
}

func plate(a, b api.Vec, r float64) api.Shape {
	return api.Shape{Kind: api.Plate, A: a, B: b, R: r}
}

func tube(a, b api.Vec, r float64) api.Shape {
	return api.Shape{Kind: api.Tube, A: a, B: b, R: r}
}

func ring(a, b api.Vec, r, q float64) api.Shape {
	return api.Shape{Kind: api.Ring, A: a, B: b, R: r, Q: q}
}

// ordinary: one shape of each kind, about 0.
func ordinary() []api.Shape {
	return []api.Shape{
		ball(v(0, 0, 0), 1),
		block(v(-1, -2, -3), v(1, 2, 3)),
		triangle(v(0, 0, 0), v(4, 0, 0), v(0, 4, 0)),
		plate(v(0, 0, 0), v(0, 0, 2), 3),
		tube(v(0, 0, 0), v(0, 3, 0), 1),
		ring(v(0, 0, 0), v(0, 0, 1), 2, 0.5),
	}
}

func outOfReach() []float64 {
	return []float64{beyond, -beyond, inf, -inf, none}
}

// set: how to put x at each of three places.
func set() []func(w *api.Vec, x float64) {
	return []func(w *api.Vec, x float64){
		func(w *api.Vec, x float64) { w.X = x },
		func(w *api.Vec, x float64) { w.Y = x },
		func(w *api.Vec, x float64) { w.Z = x },
	}
}

// H1

func TestMay(t *testing.T) {
	for i, s := range ordinary() {
		if e := shape.May(s); e != api.OK {
			t.Errorf("May of an ordinary shape of kind %d: %d", i+1, e)
		}
	}
	up := v(0, 1, 0)
	for _, c := range []struct {
		what string
		s    api.Shape
		want api.Errno
	}{
		{"the smallest ball", ball(v(0, 0, 0), 5e-324), api.OK},
		{"a ball with R 0", ball(v(0, 0, 0), 0), api.ErrValue},
		{"a ball with R -0", ball(v(0, 0, 0), minus0), api.ErrValue},
		{"a ball with R below 0", ball(v(0, 0, 0), -1), api.ErrValue},
		{"a ball up to the edge of reach", ball(v(api.MaxReach-1, 1-api.MaxReach, 0), 1), api.OK},
		{"a ball beyond reach", ball(v(0, api.MaxReach-1, 0), 1.5), api.ErrReach},
		{"a ball beyond reach, downward", ball(v(0, 0, 1-api.MaxReach), 1.5), api.ErrReach},
		{"a ball of nothing, beyond reach", ball(v(api.MaxReach, 0, 0), -1), api.ErrValue},

		{"a block whose numbers fall from X to Z", block(v(9, 5, 1), v(10, 6, 2)), api.OK},
		{"a block that is a point", block(v(1, 2, 3), v(1, 2, 3)), api.OK},
		{"a block from 0 to -0", block(v(0, 0, 0), v(minus0, minus0, minus0)), api.OK},
		{"a block as great as may be", block(v(-api.MaxReach, -api.MaxReach, -api.MaxReach), v(api.MaxReach, api.MaxReach, api.MaxReach)), api.OK},
		{"a block turned about in X", block(v(next(1), 0, 0), v(1, 1, 1)), api.ErrValue},
		{"a block turned about in Y", block(v(0, next(1), 0), v(1, 1, 1)), api.ErrValue},
		{"a block turned about in Z", block(v(0, 0, next(1)), v(1, 1, 1)), api.ErrValue},

		{"a triangle that is a point", triangle(v(1, 2, 3), v(1, 2, 3), v(1, 2, 3)), api.OK},
		{"a triangle up to the edge of reach", triangle(v(-api.MaxReach, 0, 0), v(api.MaxReach, 0, 0), v(0, api.MaxReach, 0)), api.OK},

		{"a plate with R 0", plate(v(0, 0, 0), up, 0), api.ErrValue},
		{"a plate with R below 0 and no B", plate(v(0, 0, 0), v(0, 0, 0), -1), api.ErrValue},
		{"a plate without B", plate(v(0, 0, 0), v(0, minus0, 0), 1), api.ErrZero},
		{"a plate whose B is too short", plate(v(0, 0, 0), v(1e-170, 0, 1e-170), 1), api.ErrZero},
		{"a plate whose B is just long enough", plate(v(0, 0, 0), v(1e-160, 0, 0), 1), api.OK},
		{"a plate without B, beyond reach", plate(v(api.MaxReach, 0, 0), v(0, 0, 0), 1), api.ErrZero},
		{"a plate beyond reach", plate(v(api.MaxReach, 0, 0), up, 1), api.ErrReach},

		{"a tube along X", tube(v(0, 0, 0), v(2, 0, minus0), 1), api.OK},
		{"a tube backward along Z", tube(v(0, 0, 0), v(minus0, 0, -2), 1), api.OK},
		{"a tube with R 0", tube(v(0, 0, 0), up, 0), api.ErrValue},
		{"a tube with R below 0", tube(v(0, 0, 0), up, -1), api.ErrValue},
		{"a tube without B", tube(v(0, 0, 0), v(0, minus0, 0), 1), api.ErrValue},
		{"a tube along X and Y", tube(v(0, 0, 0), v(1, 1, 0), 1), api.ErrValue},
		{"a tube along Y and Z", tube(v(0, 0, 0), v(0, 5e-324, -1), 1), api.ErrValue},
		{"a tube along all three", tube(v(0, 0, 0), v(1, 1, 1), 1), api.ErrValue},
		{"a tube whose end is beyond reach", tube(v(0, api.MaxReach, 0), up, 1), api.ErrReach},
		{"a tube that is beyond reach about its axis", tube(v(api.MaxReach, 0, 0), up, 1), api.ErrReach},
		{"a tube that ends at the edge of reach", tube(v(0, api.MaxReach-1, 0), up, 1), api.OK},
		{"a tube of nothing, beyond reach", tube(v(0, api.MaxReach, 0), up, 0), api.ErrValue},

		{"a ring as thick as wide", ring(v(0, 0, 0), up, 2, 2), api.OK},
		{"a ring with R less than Q", ring(v(0, 0, 0), up, ahead(2), 2), api.ErrValue},
		{"a ring with Q 0", ring(v(0, 0, 0), up, 2, 0), api.ErrValue},
		{"a ring with Q below 0", ring(v(0, 0, 0), up, 2, -1), api.ErrValue},
		{"a ring with R below 0", ring(v(0, 0, 0), up, -2, -3), api.ErrValue},
		{"a ring square to a B below 0", ring(v(0, 0, 0), v(-3, 0, 0), 2, 1), api.OK},
		{"a ring without B", ring(v(0, 0, 0), v(0, 0, minus0), 2, 1), api.ErrValue},
		{"a ring with two numbers in B", ring(v(0, 0, 0), v(1, 0, 1), 2, 1), api.ErrValue},
		{"a ring up to the edge of reach", ring(v(api.MaxReach-3, 0, 0), up, 2, 1), api.OK},
		{"a ring beyond reach", ring(v(api.MaxReach-2.5, 0, 0), up, 2, 1), api.ErrReach},
		{"a ring within reach along its axis", ring(v(0, api.MaxReach-1, 0), up, 2, 1), api.OK},
		{"a ring of nothing, beyond reach", ring(v(api.MaxReach, 0, 0), up, 2, 0), api.ErrValue},
	} {
		if got := shape.May(c.s); got != c.want {
			t.Errorf("May of %s: %d, not %d", c.what, got, c.want)
		}
	}
}

// What a kind has no use for is asked for all the same.
func TestMayOfEveryNumber(t *testing.T) {
	for _, s := range ordinary() {
		for _, x := range outOfReach() {
			var bad []api.Shape
			for _, put := range set() {
				a, b, c := s, s, s
				put(&a.A, x)
				put(&b.B, x)
				put(&c.C, x)
				bad = append(bad, a, b, c)
			}
			r, q := s, s
			r.R, q.Q = x, x
			for i, w := range append(bad, r, q) {
				if e := shape.May(w); e != api.ErrReach {
					t.Errorf("May of kind %d with %v at place %d: %d, not ErrReach", s.Kind, x, i, e)
				}
			}
		}
	}
	edge := ball(v(0, 0, 0), 1)
	edge.B, edge.C, edge.Q = v(api.MaxReach, -api.MaxReach, 0), v(0, api.MaxReach, -api.MaxReach), -api.MaxReach
	if e := shape.May(edge); e != api.OK {
		t.Errorf("May with numbers at the edge of reach: %d", e)
	}
}

func TestMayOfKindsAndSkins(t *testing.T) {
	for _, kind := range []int{0, 7, -1, math.MaxInt, math.MinInt} {
		if e := shape.May(api.Shape{Kind: kind, B: v(0, 1, 0), R: 1, Q: 1}); e != api.ErrKind {
			t.Errorf("May of kind %d: %d, not ErrKind", kind, e)
		}
	}
	for _, s := range ordinary() {
		for skin, want := range map[int]api.Errno{
			0: api.OK, api.MaxSkins - 1: api.OK,
			-1: api.ErrLimit, api.MaxSkins: api.ErrLimit, math.MaxInt: api.ErrLimit, math.MinInt: api.ErrLimit,
		} {
			s.Skin = skin
			if e := shape.May(s); e != want {
				t.Errorf("May of kind %d with the skin %d: %d, not %d", s.Kind, skin, e, want)
			}
		}
	}
}

// refused: shapes that may not be, each with all the errors that come later.
func refused() map[api.Errno]api.Shape {
	return map[api.Errno]api.Shape{
		api.ErrLimit: {Kind: 7, A: v(none, 0, 0), Skin: api.MaxSkins},
		api.ErrReach: {Kind: 7, A: v(none, 0, 0)},
		api.ErrKind:  {Kind: 7, A: v(api.MaxReach, 0, 0), R: -1},
		api.ErrValue: plate(v(api.MaxReach, 0, 0), v(0, 0, 0), 0),
		api.ErrZero:  plate(v(api.MaxReach, 0, 0), v(0, 0, 0), 1),
	}
}

// All calls but Edge and Through say first what May says.
func TestRefused(t *testing.T) {
	for want, s := range refused() {
		if e := shape.May(s); e != want {
			t.Errorf("May: %d, not %d", e, want)
		}
		if b, e := shape.Bounds(s); e != want || b != (api.Box{}) {
			t.Errorf("Bounds: %v, %d, not 0 and %d", b, e, want)
		}
		// The ray, and the point, are as bad.
		r, p := ray(v(0, 0, 0), v(1, 0, 0), -1), v(none, 0, 0)
		if want == api.ErrValue {
			r = ray(v(0, 0, 0), v(0, 0, 0), 0)
		}
		if x, ok, e := shape.Strike(s, r); e != want || ok || !same(x, 0) {
			t.Errorf("Strike: %v, %t, %d, not 0, false and %d", x, ok, e, want)
		}
		if in, out, ok, e := shape.Within(s, r); e != want || ok || !same(in, 0) || !same(out, 0) {
			t.Errorf("Within: %v, %v, %t, %d, not 0, 0, false and %d", in, out, ok, e, want)
		}
		if n, e := shape.Normal(s, p); e != want || !sameVec(n, v(0, 0, 0)) {
			t.Errorf("Normal: %v, %d, not 0 and %d", n, e, want)
		}
	}
	outside := ball(v(api.MaxReach, 0, 0), 1)
	if b, e := shape.Bounds(outside); e != api.ErrReach || b != (api.Box{}) {
		t.Errorf("Bounds beyond reach: %v, %d", b, e)
	}
	if x, ok, e := shape.Strike(outside, ray(v(0, 0, 0), v(0, 0, 0), 0)); e != api.ErrReach || ok || x != 0 {
		t.Errorf("Strike beyond reach: %v, %t, %d", x, ok, e)
	}
}

// badRays: rays that may not be, and what is said of them.
func badRays() map[api.Errno][]api.Ray {
	x := v(1, 0, 0)
	return map[api.Errno][]api.Ray{
		api.ErrReach: {
			ray(v(0, beyond, 0), x, 0), ray(v(0, 0, 0), v(1, none, 0), 0), ray(v(0, 0, 0), x, inf),
			ray(v(0, 0, 0), v(1, 0, tiny), 0), ray(v(0, none, 0), v(0, 0, 0), -1),
		},
		api.ErrZero:  {ray(v(0, 0, 0), v(0, minus0, 0), -1)},
		api.ErrValue: {ray(v(0, 0, 0), x, -1), ray(v(0, 0, 0), x, -5e-324)},
	}
}

func TestBadRays(t *testing.T) {
	a, b, c := v(0, 0, 0), v(1, 0, 0), v(0, 1, 0)
	for want, rays := range badRays() {
		for _, r := range rays {
			for _, s := range ordinary() {
				if x, ok, e := shape.Strike(s, r); e != want || ok || !same(x, 0) {
					t.Errorf("Strike of kind %d by %v: %v, %t, %d, not 0, false and %d", s.Kind, r, x, ok, e, want)
				}
				if in, out, ok, e := shape.Within(s, r); e != want || ok || !same(in, 0) || !same(out, 0) {
					t.Errorf("Within of kind %d by %v: %v, %v, %t, %d, not 0, 0, false and %d", s.Kind, r, in, out, ok, e, want)
				}
			}
			// The points are bad as well: the ray is looked at first.
			far := v(0, 0, beyond)
			if x, e := shape.Edge(r, far, b); e != want || !same(x, 0) {
				t.Errorf("Edge by %v: %v, %d, not 0 and %d", r, x, e, want)
			}
			if ok, e := shape.Through(r, a, far, c); e != want || ok {
				t.Errorf("Through by %v: %t, %d, not false and %d", r, ok, e, want)
			}
		}
	}
}

// H2

func TestBounds(t *testing.T) {
	for _, c := range []struct {
		what   string
		s      api.Shape
		lo, hi api.Vec
	}{
		{"a ball", ball(v(1, 2, 3), 2), v(-1, 0, 1), v(3, 4, 5)},
		{"a ball, rounded", ball(v(0.1, 0.7, -0.3), 0.2), v(-0.1, 0.49999999999999994, -0.5), v(0.30000000000000004, 0.8999999999999999, -0.09999999999999998)},
		{"a ball that is lost beside A", ball(v(minus0, 1, -1), 1e-300), v(-1e-300, 1, -1), v(1e-300, 1, -1)},
		{"a block", block(v(-1, -2, -3), v(1, 2, 3)), v(-1, -2, -3), v(1, 2, 3)},
		{"a block of noughts with signs", block(v(minus0, 0, minus0), v(0, minus0, minus0)), v(minus0, 0, minus0), v(0, minus0, minus0)},
		{"a triangle", triangle(v(1, 5, -3), v(-2, 6, -1), v(3, 4, -2)), v(-2, 4, -3), v(3, 6, -1)},
		{"a triangle, the other way about", triangle(v(3, 4, -1), v(1, 5, -3), v(-2, 6, -2)), v(-2, 4, -3), v(3, 6, -1)},
		{"a triangle whose first nought has the sign", triangle(v(minus0, 0, 0), v(0, minus0, 1), v(0, 0, minus0)), v(minus0, 0, 0), v(minus0, 0, 1)},
		{"a triangle whose second nought has the sign", triangle(v(0, 1, -1), v(minus0, minus0, minus0), v(0, 0, 0)), v(0, minus0, -1), v(0, 1, minus0)},
		{"a plate", plate(v(1, 2, 3), v(1, 1, 1), 2), v(-1, 0, 1), v(3, 4, 5)},
		{"a tube along X", tube(v(1, 2, 3), v(4, 0, 0), 0.5), v(1, 1.5, 2.5), v(5, 2.5, 3.5)},
		{"a tube along Y", tube(v(1, 2, 3), v(0, 4, 0), 0.5), v(0.5, 2, 2.5), v(1.5, 6, 3.5)},
		{"a tube backward along Z", tube(v(1, 2, 3), v(0, 0, -4), 0.5), v(0.5, 1.5, -1), v(1.5, 2.5, 3)},
		{"a tube, rounded", tube(v(0.1, 0.7, -0.3), v(0.2, 0, 0), 0.2), v(0.1, 0.49999999999999994, -0.5), v(0.30000000000000004, 0.8999999999999999, -0.09999999999999998)},
		{"a tube from -0 on", tube(v(minus0, 0, 0), v(2, 0, 0), 1), v(minus0, -1, -1), v(2, 1, 1)},
		{"a tube from -0 backward", tube(v(0, minus0, 0), v(0, -2, 0), 1), v(-1, -2, -1), v(1, 0, 1)},
		{"a tube that ends at 0", tube(v(0, 0, -2), v(0, 0, 2), 1), v(-1, -1, -2), v(1, 1, 0)},
		{"a ring square to X", ring(v(1, 2, 3), v(9, 0, 0), 2, 0.5), v(0.5, -0.5, 0.5), v(1.5, 4.5, 5.5)},
		{"a ring square to Y", ring(v(1, 2, 3), v(0, -9, 0), 2, 0.5), v(-1.5, 1.5, 0.5), v(3.5, 2.5, 5.5)},
		{"a ring square to Z", ring(v(1, 2, 3), v(0, 0, 1e-300), 2, 0.5), v(-1.5, -0.5, 2.5), v(3.5, 4.5, 3.5)},
		{"a ring whose R and Q are summed up first", ring(v(0.3, 0.3, 0.1), v(0, 0, 1), 0.2, 0.1), v(-5.551115123125783e-17, -5.551115123125783e-17, 0), v(0.6000000000000001, 0.6000000000000001, 0.2)},
	} {
		b, e := shape.Bounds(c.s)
		if e != api.OK || !sameVec(b.Lo, c.lo) || !sameVec(b.Hi, c.hi) {
			t.Errorf("Bounds of %s: %v, %d, not %v, %v", c.what, b, e, c.lo, c.hi)
		}
	}
}
