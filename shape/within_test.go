package shape_test

import (
	"testing"

	"rayhouse/api"
	"rayhouse/shape"
)

// H6

// stay: a ray, and from where to where it is within; both 0: nowhere.
type stay struct {
	what    string
	r       api.Ray
	in, out float64
}

func checkStays(t *testing.T, s api.Shape, list []stay) {
	t.Helper()
	for _, c := range list {
		in, out, ok, e := shape.Within(s, c.r)
		if e != api.OK || ok != (c.in < c.out) || !same(in, c.in) || !same(out, c.out) {
			t.Errorf("kind %d, %s: %v, %v, %t, %d, not %v, %v", s.Kind, c.what, in, out, ok, e, c.in, c.out)
		}
	}
}

func TestWithinBall(t *testing.T) {
	z := v(0, 0, 1)
	checkStays(t, ball(v(0, 0, 0), 1), []stay{
		{"from outside", ray(v(0, 0, -5), v(0, 0, 2), 0), 2, 3},
		{"from within", ray(v(0, 0, 0.5), z, 0), 0, 0.5},
		{"from behind", ray(v(0, 0, 5), z, 0), 0, 0},
		{"from behind, within the box", ray(v(0.9, 0.9, 0), v(1, 1, 0), 0), 0, 0},
		{"beside it", ray(v(0, 1.5, -5), z, 0), 0, 0},
		{"beside it, within the box", ray(v(0.9, 0.9, -5), z, 0), 0, 0},
		{"where it is only touched", ray(v(0, 1, -5), z, 0), 0, 0},
		{"from its surface inward", ray(v(0, 0, -1), z, 0), 0, 2},
		{"from its surface outward", ray(v(0, 0, 1), z, 0), 0, 0},
		{"Least of -0", ray(v(0, 0, 0), z, minus0), 0, 1},
		{"Least between", ray(v(0, 0, -5), z, 5), 4, 6},
		{"Least beyond", ray(v(0, 0, -5), z, 700), 4, 6},
	})
	checkStays(t, ball(v(1.6, 1.6, 1.1), 0.3), []stay{
		{"in is ahead of near", ray(v(0.3, 1.6, 1.1), v(1, 0, 0), 0), 1, 1.6},
	})
	checkStays(t, ball(v(1, 0, 2.8), 2), []stay{
		{"out is behind far", ray(v(0.2, 0, 2.8), v(0.7, 0, 0), 0), 0, 4},
	})
}

func TestWithinBlock(t *testing.T) {
	z := v(0, 0, 1)
	checkStays(t, block(v(-1, -2, -3), v(1, 2, 3)), []stay{
		{"from outside", ray(v(0, 0, -5), v(0, 0, 0.5), 0), 4, 16},
		{"from within", ray(v(0, 0, 0), z, 0), 0, 3},
		{"from behind", ray(v(0, 0, 5), z, 0), 0, 0},
		{"beside it", ray(v(1.5, 0, -5), z, 0), 0, 0},
		{"along a side", ray(v(-5, 2, 0), v(1, 0, 0), 0), 4, 6},
		{"through an edge", ray(v(-2, 1, 0), v(1, 1, 0), 0), 0, 0},
		{"through a corner", ray(v(-2, -1, -4), v(1, -1, 1), 0), 0, 0},
		{"from a side outward", ray(v(0, 0, 3), z, 0), 0, 0},
		{"from a side inward", ray(v(0, 0, 3), v(0, 0, -1), 0), 0, 6},
		{"Least of -0", ray(v(0, 0, 0), z, minus0), 0, 3},
		{"Least between", ray(v(0, 0, -5), z, 5), 2, 8},
		{"Least beyond", ray(v(0, 0, -5), z, 9), 2, 8},
	})
	checkStays(t, block(v(-1, -1, 2), v(1, 1, 2)), []stay{
		{"flat", ray(v(0, 0, 0), z, 0), 0, 0},
		{"flat, along it", ray(v(-3, 0, 2), v(1, 0, 0), 0), 2, 4},
	})
}

func TestWithinTube(t *testing.T) {
	x, y := v(1, 0, 0), v(0, 1, 0)
	checkStays(t, tube(v(0, 0, 0), v(0, 3, 0), 1), []stay{
		{"from outside", ray(v(-5, 1, 0), v(2, 0, 0), 0), 2, 3},
		{"from within", ray(v(0, 1, 0), x, 0), 0, 1},
		{"from behind", ray(v(5, 1, 0), x, 0), 0, 0},
		{"beside it, within the box", ray(v(-0.2, 1, 1.8), v(1, 0, -1), 0), 0, 0},
		{"where it is only touched", ray(v(-5, 1, 1), x, 0), 0, 0},
		{"along its axis", ray(v(0, -5, 0), y, 0), 5, 8},
		{"along its axis, backward", ray(v(0.5, 5, 0), v(0, -2, 0), 0), 1, 2.5},
		{"along its axis, from within", ray(v(0, 1, 0.5), y, 0), 0, 2},
		{"along its axis, on the side", ray(v(0.6, -5, 0.8), y, 0), 5, 8},
		{"along its axis, beside it, within the box", ray(v(0.9, -5, 0.9), v(minus0, 1, minus0), 0), 0, 0},
		{"in through an end", ray(v(-2.5, -2, 0), v(1, 1, 0), 0), 2, 3.5},
		{"out through an end", ray(v(-2.5, 1, 0), v(1, 1, 0), 0), 1.5, 2},
		{"in and out through the ends", ray(v(-1, -1, 0), v(0.25, 1, 0), 0), 1, 4},
		{"over an end, down into the box's corner", ray(v(0, 4, 0), v(1, -1.2, 1), 0), 0, 0},
		{"along an end", ray(v(-5, 3, 0), x, 0), 4, 6},
		{"from an end outward", ray(v(0, 3, 0), y, 0), 0, 0},
		{"Least between", ray(v(-5, 1, 0), x, 5), 4, 6},
		{"Least beyond", ray(v(-5, 1, 0), x, 50), 4, 6},
		{"along its axis, Least between", ray(v(0, -5, 0), y, 6), 5, 8},
	})
	checkStays(t, tube(v(3, 0, 0), v(-3, 0, 0), 1), []stay{
		{"along X, backward", ray(v(1, -5, 0), y, 0), 4, 6},
		{"along X, through both ends", ray(v(-5, 0, 0.5), x, 0), 5, 8},
	})
	checkStays(t, tube(v(0, 0, 1), v(0, 0, 2), 1), []stay{
		{"along Z", ray(v(-5, 0, 1.5), x, 0), 4, 6},
		{"along Z, below it", ray(v(-5, 0, 0.5), x, 0), 0, 0},
	})
}

// Worked out elsewhere; where a product was fused into a sum, other bits would come out.
func TestWithinBits(t *testing.T) {
	for i, c := range []struct {
		s       api.Shape
		r       api.Ray
		in, out float64
	}{
		{ball(v(2.2, 0.6, -2.3), 0.4), ray(v(-5.4, -3.2, -5.5), v(7.7, 4.1, 3), 0), 0.961061865053394, 1.0060356672615298},
		{ball(v(3, -1.3, 0), 1.2), ray(v(-2.4, 3.1, -1.1), v(5.6, -4.5, 0.8), 0), 0.8147696220193273, 1.1343212870715818},
		{ball(v(-1.7, 1.9, -1.2), 3), ray(v(-5, -3.9, -0.3), v(3.3, 5.9, -1), 0), 0.5464657643632409, 1.4239839144376154},
		{ball(v(-0.9, 0.5, -0.1), 2.2), ray(v(0.5, -5.2, -4.6), v(-1.1, 5.5, 4.2), 0), 0.7431851098539981, 1.3663871915716639},
		{tube(v(-2.1, -0.9, -1.4), v(0, 1.7, 0), 0.7), ray(v(-5.3, 0.2, -2.6), v(3.4, -0.6, 1.4), 0), 0.7409321673478079, 1.1170559983326656},
		{tube(v(-2.7, 1, 2.4), v(0, 2.5, 0), 2.5), ray(v(0.8, 2, 4.9), v(-3.5, 0.5, -2.2), 0), 0.43700779109995685, 1.6402303598655201},
		{tube(v(-1.8, -1.2, 1.8), v(0, -2.7, 0), 1.8), ray(v(1.5, -1.6, 4.6), v(-3.2, -1, -2.7), 0), 0.6037520909370951, 1.463561086473059},
		{tube(v(1.5, 1.7, 1.1), v(1.8, 0, 0), 2.7), ray(v(2.6, 3.5, -2.2), v(-0.1, -1.7, 3.3), 0), 0.28538824753530134, 1.7392851922324786},
	} {
		in, out, ok, e := shape.Within(c.s, c.r)
		if e != api.OK || !ok || !same(in, c.in) || !same(out, c.out) {
			t.Errorf("%d: %v, %v, %t, %d, not %v, %v", i, in, out, ok, e, c.in, c.out)
		}
	}
}

// What has no inside is refused, once the ray has been looked at.
func TestWithinOfOtherKinds(t *testing.T) {
	r := ray(v(1, 1, -5), v(0, 0, 1), 0)
	for _, s := range ordinary() {
		want := api.OK
		if s.Kind == api.Tri || s.Kind == api.Plate || s.Kind == api.Ring {
			want = api.ErrKind
		}
		in, out, ok, e := shape.Within(s, r)
		if e != want || e != api.OK && (ok || !same(in, 0) || !same(out, 0)) {
			t.Errorf("Within of kind %d: %v, %v, %t, %d, not %d", s.Kind, in, out, ok, e, want)
		}
	}
}
