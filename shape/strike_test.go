package shape_test

import (
	"testing"

	"rayhouse/api"
	"rayhouse/shape"
)

// struck: a ray, and where it strikes; miss: nowhere.
type struck struct {
	what string
	r    api.Ray
	want float64
	miss bool
}

func checkStrikes(t *testing.T, s api.Shape, list []struck) {
	t.Helper()
	for _, c := range list {
		got, ok, e := shape.Strike(s, c.r)
		if e != api.OK || ok == c.miss || !same(got, c.want) {
			t.Errorf("kind %d, %s: %v, %t, %d, not %v, %t", s.Kind, c.what, got, ok, e, c.want, !c.miss)
		}
	}
}

// H3

func TestStrikeBall(t *testing.T) {
	z := v(0, 0, 1)
	checkStrikes(t, ball(v(0, 0, 0), 1), []struck{
		{what: "from outside", r: ray(v(0, 0, -5), v(0, 0, 2), 0), want: 2},
		{what: "from outside, aslant", r: ray(v(-3, -3, 0), v(1, 1, 0), 0), want: 2.29289321881345254},
		{what: "from within", r: ray(v(0, 0, 0.5), z, 0), want: 0.5},
		{what: "from the middle, backward", r: ray(v(0, 0, 0), v(0, 0, -4), 0), want: 0.25},
		{what: "from behind", r: ray(v(0, 0, 5), z, 0), miss: true},
		{what: "from behind, within the box", r: ray(v(0.9, 0.9, 0), v(1, 1, 0), 0), miss: true},
		{what: "beside it", r: ray(v(0, 1.5, -5), z, 0), miss: true},
		{what: "beside it, within the box", r: ray(v(0.9, 0.9, -5), z, 0), miss: true},
		{what: "where it is only touched", r: ray(v(0, 1, -5), z, 0), want: 5},
		{what: "from where it is only touched", r: ray(v(0, 1, 0), z, 0), want: minus0},
		{what: "from its surface inward", r: ray(v(0, 0, -1), z, 0), want: 0},
		{what: "from its surface outward", r: ray(v(0, 0, 1), z, 0), want: 0},
		{what: "from its surface outward, backward", r: ray(v(0, 0, -1), v(0, 0, -1), 0), want: 0},
		{what: "Least just ahead of in", r: ray(v(0, 0, -5), z, ahead(4)), want: 4},
		{what: "Least at in", r: ray(v(0, 0, -5), z, 4), want: 4},
		{what: "Least just behind in", r: ray(v(0, 0, -5), z, next(4)), want: 6},
		{what: "Least between", r: ray(v(0, 0, -5), z, 5), want: 6},
		{what: "Least at out", r: ray(v(0, 0, -5), z, 6), want: 6},
		{what: "Least just behind out", r: ray(v(0, 0, -5), z, next(6)), miss: true},
		{what: "Least behind out, within the box", r: ray(v(-5, 0, 0.8), v(1, 0, 0), 5.7), miss: true},
		{what: "Least beyond", r: ray(v(0, 0, -5), z, 7), miss: true},
	})
}

func TestStrikeBlock(t *testing.T) {
	z := v(0, 0, 1)
	checkStrikes(t, block(v(-1, -2, -3), v(1, 2, 3)), []struck{
		{what: "from outside", r: ray(v(0, 0, -5), v(0, 0, 0.5), 0), want: 4},
		{what: "from outside, aslant", r: ray(v(-3, -3, 0), v(1, 1, 0), 0), want: 2},
		{what: "from within", r: ray(v(0, 0, 0), z, 0), want: 3},
		{what: "from behind", r: ray(v(0, 0, 5), z, 0), miss: true},
		{what: "beside it", r: ray(v(1.5, 0, -5), z, 0), miss: true},
		{what: "along a side", r: ray(v(-5, 2, 0), v(1, 0, 0), 0), want: 4},
		{what: "along an edge", r: ray(v(-5, 2, 3), v(1, 0, 0), 0), want: 4},
		{what: "through an edge", r: ray(v(-2, 1, 0), v(1, 1, 0), 0), want: 1},
		{what: "through a corner", r: ray(v(-2, -1, -4), v(1, -1, 1), 0), want: 1},
		{what: "from a side inward", r: ray(v(0, 0, -3), z, 0), want: 6},
		{what: "from a side outward", r: ray(v(0, 0, 3), z, 0), want: 0},
		{what: "from a side outward, backward", r: ray(v(0, 0, -3), v(0, 0, -1), 0), want: minus0},
		{what: "Least just ahead of near", r: ray(v(0, 0, -5), z, ahead(2)), want: 2},
		{what: "Least at near", r: ray(v(0, 0, -5), z, 2), want: 8},
		{what: "Least between", r: ray(v(0, 0, -5), z, 5), want: 8},
		{what: "Least at far", r: ray(v(0, 0, -5), z, 8), want: 8},
		{what: "Least beyond", r: ray(v(0, 0, -5), z, next(8)), miss: true},
	})
	checkStrikes(t, block(v(-1, -1, 2), v(1, 1, 2)), []struck{
		{what: "flat", r: ray(v(0, 0, 0), z, 0), want: 2},
		{what: "flat, Least there", r: ray(v(0, 0, 0), z, 2), want: 2},
		{what: "flat, Least beyond", r: ray(v(0, 0, 0), z, next(2)), miss: true},
		{what: "flat, along it", r: ray(v(-3, 0, 2), v(1, 0, 0), 0), want: 2},
		{what: "flat, from it", r: ray(v(0, 0, 2), z, 0), want: 0},
	})
	checkStrikes(t, block(v(1, 1, 1), v(1, 1, 1)), []struck{
		{what: "a point", r: ray(v(0, 0, 0), v(0.5, 0.5, 0.5), 0), want: 2},
		{what: "beside a point", r: ray(v(0, 0, 0), v(0.5, 0.5, 0.25), 0), miss: true},
	})
}

func TestStrikeTriangle(t *testing.T) {
	z := v(0, 0, 1)
	checkStrikes(t, triangle(v(0, 0, 0), v(4, 0, 0), v(0, 4, 0)), []struck{
		{what: "from outside", r: ray(v(1, 1, -5), v(0, 0, 2), 0), want: 2.5},
		{what: "from its other side", r: ray(v(1, 1, 5), v(0, 0, -1), 0), want: 5},
		{what: "from behind", r: ray(v(1, 1, 5), z, 0), miss: true},
		{what: "beside it, within the box", r: ray(v(3, 3, -5), z, 0), miss: true},
		{what: "through an edge", r: ray(v(2, 2, -5), z, 0), want: 5},
		{what: "just beside an edge", r: ray(v(2, next(2), -5), z, 0), miss: true},
		{what: "through an edge, along an axis", r: ray(v(1, 0, -5), z, 0), want: 5},
		{what: "through the corner A", r: ray(v(0, 0, -5), z, 0), want: 5},
		{what: "through the corner B", r: ray(v(4, 0, -5), z, 0), want: 5},
		{what: "through the corner C", r: ray(v(0, 4, -5), z, 0), want: 5},
		{what: "along its plane", r: ray(v(-5, 1, 0), v(1, 0, 0), 0), miss: true},
		{what: "along an edge", r: ray(v(-5, 0, 0), v(1, 0, 0), 0), miss: true},
		{what: "from its plane", r: ray(v(1, 1, 0), z, 0), want: 0},
		{what: "from its plane, backward", r: ray(v(1, 1, 0), v(0, 0, -1), 0), want: minus0},
		{what: "Least there", r: ray(v(1, 1, -5), z, 5), want: 5},
		{what: "Least beyond", r: ray(v(1, 1, -5), z, next(5)), miss: true},
	})
	checkStrikes(t, triangle(v(0, 0, 0), v(4, 0, 4), v(0, 4, 4)), []struck{
		{what: "within the box, ahead of it", r: ray(v(1, 1, 1), z, 0), want: 1},
		{what: "within the box, behind it", r: ray(v(1, 1, 3), z, 0), miss: true},
		{what: "Least within the box, behind it", r: ray(v(1, 1, -1), z, 3.5), miss: true},
	})
	checkStrikes(t, triangle(v(0, 0, 0), v(2, 2, 0), v(4, 4, 0)), []struck{
		{what: "without a breadth", r: ray(v(1, 1, -5), z, 0), miss: true},
		{what: "without a breadth, within the box", r: ray(v(1, 2, -5), z, 0), miss: true},
	})
	checkStrikes(t, triangle(v(1, 1, 1), v(1, 1, 1), v(1, 1, 1)), []struck{
		{what: "a point", r: ray(v(1, 1, -5), z, 0), miss: true},
	})
}

func TestStrikePlate(t *testing.T) {
	z := v(0, 0, 1)
	checkStrikes(t, plate(v(0, 0, 0), v(0, 0, 2), 3), []struck{
		{what: "from outside", r: ray(v(1, 1, -5), v(0, 0, 2), 0), want: 2.5},
		{what: "from its other side", r: ray(v(1, 1, 5), v(0, 0, -1), 0), want: 5},
		{what: "aslant", r: ray(v(-4, 0, -4), v(1, 0, 1), 0), want: 4},
		{what: "from behind", r: ray(v(1, 1, 5), z, 0), miss: true},
		{what: "from behind, within the box", r: ray(v(1, 1, 1), z, 0), miss: true},
		{what: "at its rim", r: ray(v(3, 0, -5), z, 0), want: 5},
		{what: "at its rim, aslant", r: ray(v(1.8, 2.4, -5), z, 0), want: 5},
		{what: "just beyond its rim", r: ray(v(1.8, 2.4000000000000004, -5), z, 0), miss: true},
		{what: "beside it, within the box", r: ray(v(2.5, 2.5, -5), z, 0), miss: true},
		{what: "along it", r: ray(v(-5, 1, 0), v(1, 0, 0), 0), miss: true},
		{what: "alongside of it", r: ray(v(-5, 1, 1), v(1, 0, 0), 0), miss: true},
		{what: "from it", r: ray(v(1, 1, 0), z, 0), want: 0},
		{what: "from it, backward", r: ray(v(1, 1, 0), v(0, 0, -1), 0), want: minus0},
		{what: "Least there", r: ray(v(1, 1, -5), z, 5), want: 5},
		{what: "Least beyond", r: ray(v(1, 1, -5), z, next(5)), miss: true},
	})
	checkStrikes(t, plate(v(0, 0, 0), v(1e-160, 0, 0), 3), []struck{
		{what: "of a B whose length is rounded", r: ray(v(-5, 1, 0), v(1, 0, 0), 0), want: 5},
	})
	checkStrikes(t, plate(v(0, 0, 0), v(1, 1e-320, 0), 3), []struck{
		{what: "so nearly along it that t has no bound", r: ray(v(-1, -5, 0), v(0, 1, 0), 0), miss: true},
		{what: "so nearly along it that t has no bound, below 0", r: ray(v(1, -5, 0), v(0, 1, 0), 0), miss: true},
	})
}

func TestStrikeTube(t *testing.T) {
	x, y := v(1, 0, 0), v(0, 1, 0)
	checkStrikes(t, tube(v(0, 0, 0), v(0, 3, 0), 1), []struck{
		{what: "from outside", r: ray(v(-5, 1, 0), v(2, 0, 0), 0), want: 2},
		{what: "from outside, rising", r: ray(v(-5, 0, 0), v(2, 1, 0), 0), want: 2},
		{what: "from within", r: ray(v(0, 1, 0), x, 0), want: 1},
		{what: "from behind", r: ray(v(5, 1, 0), x, 0), miss: true},
		{what: "beside it, within the box", r: ray(v(-0.2, 1, 1.8), v(1, 0, -1), 0), miss: true},
		{what: "where it is only touched", r: ray(v(-5, 1, 1), x, 0), want: 5},
		{what: "along its axis", r: ray(v(0, -5, 0), y, 0), want: 5},
		{what: "along its axis, backward", r: ray(v(0.5, 5, 0), v(0, -2, 0), 0), want: 1},
		{what: "along its axis, from within", r: ray(v(0, 1, 0.5), y, 0), want: 2},
		{what: "along its axis, on the side", r: ray(v(0.6, -5, 0.8), y, 0), want: 5},
		{what: "along its axis, just beside it", r: ray(v(0.6, -5, next(0.8)), y, 0), miss: true},
		{what: "along its axis, beside it, within the box", r: ray(v(0.9, -5, 0.9), v(minus0, 1, minus0), 0), miss: true},
		{what: "along its axis, behind it", r: ray(v(0, 4, 0), y, 0), miss: true},
		{what: "through an end", r: ray(v(-2, -2, 0), v(1, 1, 0), 0), want: 2},
		{what: "out through an end", r: ray(v(-0.5, 2.5, 0), v(1, 1, 0), 0), want: 0.5},
		{what: "along an end", r: ray(v(-5, 3, 0), x, 0), want: 4},
		{what: "just above an end", r: ray(v(-5, next(3), 0), x, 0), miss: true},
		{what: "through the rim of an end", r: ray(v(-2, -1, 0), v(1, 1, 0), 0), want: 1},
		{what: "over an end, down into the box's corner", r: ray(v(0, 4, 0), v(1, -1.2, 1), 0), miss: true},
		{what: "from its side inward", r: ray(v(-1, 1, 0), x, 0), want: 2},
		{what: "from its side outward", r: ray(v(1, 1, 0), x, 0), want: 0},
		{what: "from its side outward, backward", r: ray(v(-1, 1, 0), v(-1, 0, 0), 0), want: minus0},
		{what: "from its beginning outward", r: ray(v(0.5, 0, 0), v(0, -1, 0), 0), want: minus0},
		{what: "Least just ahead of in", r: ray(v(-5, 1, 0), x, ahead(4)), want: 4},
		{what: "Least at in", r: ray(v(-5, 1, 0), x, 4), want: 6},
		{what: "Least between", r: ray(v(-5, 1, 0), x, 5), want: 6},
		{what: "Least at out", r: ray(v(-5, 1, 0), x, 6), want: 6},
		{what: "Least beyond", r: ray(v(-5, 1, 0), x, next(6)), miss: true},
		{what: "Least behind out, within the box", r: ray(v(-5, 1, 0.8), x, 5.7), miss: true},
		{what: "along its axis, Least between", r: ray(v(0, -5, 0), y, 6), want: 8},
	})
	checkStrikes(t, tube(v(3, 0, 0), v(-3, 0, 0), 1), []struck{
		{what: "along X, backward", r: ray(v(1, -5, 0), y, 0), want: 4},
		{what: "along X, through its end", r: ray(v(-5, 0, 0.5), x, 0), want: 5},
	})
	checkStrikes(t, tube(v(0, 0, 1), v(0, 0, 2), 1), []struck{
		{what: "along Z", r: ray(v(-5, 0, 1.5), x, 0), want: 4},
		{what: "along Z, below it", r: ray(v(-5, 0, 0.5), x, 0), miss: true},
	})
	checkStrikes(t, tube(v(0, 0, 0), v(0, 3, 0), 2.5), []struck{
		{what: "wide, along its axis", r: ray(v(0, -5, 2), y, 0), want: 5},
		{what: "wide, along its axis, on the side", r: ray(v(1.5, -5, 2), y, 0), want: 5},
		{what: "wide, along its axis, just beside it", r: ray(v(1.5, -5, next(2)), y, 0), miss: true},
	})
}

func TestStrikeRing(t *testing.T) {
	x, z := v(1, 0, 0), v(0, 0, 1)
	checkStrikes(t, ring(v(0, 0, 0), v(0, 0, -7), 2, 0.5), []struck{
		{what: "from outside", r: ray(v(-5, 0, 0), x, 0), want: 2.5},
		{what: "from above", r: ray(v(2, 0, -5), v(0, 0, 2), 0), want: 2.25},
		{what: "through the hole", r: ray(v(0.5, 0.5, -5), z, 0), miss: true},
		{what: "from within the hole", r: ray(v(0, 0, 0), x, 0), want: 1.5},
		{what: "from within", r: ray(v(2, 0, 0), x, 0), want: 0.5},
		{what: "from behind", r: ray(v(5, 0, 0), x, 0), miss: true},
		{what: "from behind, within the box", r: ray(v(2.4, 2.4, 0), x, 0), miss: true},
		{what: "beside it, within the box", r: ray(v(2.3, 2.3, -5), z, 0), miss: true},
		{what: "where it is only touched", r: ray(v(-5, 0, 0.5), x, 0), want: 3},
		{what: "cut off downward", r: ray(v(-5, 1, 0.1), x, 0), want: 2.7196502685546875},
		{what: "cut off downward below 0: From", r: ray(v(-5, 0, -0.3), x, 0), want: 2.599853515625},
		{what: "cut off downward, a half more: From", r: ray(v(0.0003, 0, 0), x, 0), want: 1.5},
		{what: "cut off downward, a half more, below 0: From", r: ray(v(-0.0003, 0, 0), x, 0), want: 1.5},
		{what: "Dir is nought in whole numbers", r: ray(v(-5, 0, 0), v(0.0004, 0, 0), 0), miss: true},
		{what: "Dir is nought in whole numbers, below 0", r: ray(v(5, 0, 0), v(-0.0004, 0, 0), 0), miss: true},
		{what: "Dir is just not nought", r: ray(v(0, 0, 0), v(0.0005, 0, 0), 0), want: 1536},
		{what: "Dir is just not nought, below 0", r: ray(v(0, 0, 0), v(-0.0005, 0, 0), 0), want: 1536},
		{what: "Least at the first", r: ray(v(-5, 0, 0), x, 2.5), want: 2.5},
		{what: "Least just behind the first", r: ray(v(-5, 0, 0), x, next(2.5)), want: 3.5},
		{what: "Least cut off upward", r: ray(v(-5, 0, 0), x, 2.5-1.0/131072), want: 2.5},
		{what: "Least in the hole", r: ray(v(-5, 0, 0), x, 4), want: 6.5},
		{what: "Least at the last", r: ray(v(-5, 0, 0), x, 7.5), want: 7.5},
		{what: "Least just behind the last", r: ray(v(-5, 0, 0), x, next(7.5)), miss: true},
		{what: "Least of -0", r: ray(v(0, 0, 0), x, minus0), want: 1.5},
	})
	checkStrikes(t, ring(v(0.0003, 0, 0), z, 2, 0.5), []struck{
		{what: "A is taken off ahead of it", r: ray(v(0.0003, 0, 0), x, 0), want: 1.5},
	})
	checkStrikes(t, ring(v(0, 0, 0), z, 2.0003, 0.4997), []struck{
		{what: "R and Q likewise", r: ray(v(0, 0, 0), x, 0), want: 1.5},
	})
	checkStrikes(t, ring(v(0, 0, 0), z, 2, 0.0004), []struck{
		{what: "Q is nought in whole numbers", r: ray(v(-5, 0, 0), x, 0), want: 3},
		{what: "Q is nought in whole numbers, beside it", r: ray(v(-5, 0, 0.0004), v(1, 0, 0), 0), want: 3},
		{what: "Q is nought in whole numbers, through the hole", r: ray(v(1, 0, -5), z, 0), miss: true},
	})
	checkStrikes(t, ring(v(0, 0, 0), x, 2, 0.5), []struck{
		{what: "square to X", r: ray(v(-5, 2, 0), x, 0), want: 4.5},
		{what: "square to X, through the hole", r: ray(v(-5, 0, 0), x, 0), miss: true},
	})
	checkStrikes(t, ring(v(0, 0, 0), v(0, 2, 0), 2, 0.5), []struck{
		{what: "square to Y", r: ray(v(0, -5, 2), v(0, 1, 0), 0), want: 4.5},
		{what: "square to Y, through the hole", r: ray(v(0, -5, 0), v(0, 1, 0), 0), miss: true},
	})
	far := ring(v(api.MaxReach-3, 0, 0), z, 2, 0.5)
	checkStrikes(t, far, []struck{
		{what: "as far as may be", r: ray(v(-api.MaxReach, 0, 0), x, 0), want: 1999994.5},
		{what: "nearly 2 to the 46 parts away", r: ray(v(-api.MaxReach, 0, 0), v(0.002, 0, 0), 0), want: 999999750},
		{what: "more than 2 to the 46 parts away", r: ray(v(-api.MaxReach, 0, 0), v(0.001, 0, 0), 0), miss: true},
	})
}

// What is struck by rounding ahead of the box, or behind it, is told at its side.
func TestStrikeKeepsToTheBox(t *testing.T) {
	for _, c := range []struct {
		what string
		s    api.Shape
		r    api.Ray
		want float64
	}{
		{"a ball: 0.9999999999999999 is ahead of near", ball(v(1.6, 1.6, 1.1), 0.3), ray(v(0.3, 1.6, 1.1), v(1, 0, 0), 0), 1},
		{"a ball: 4.000000000000001 is behind far", ball(v(1, 0, 2.8), 2), ray(v(0.2, 0, 2.8), v(0.7, 0, 0), 0), 4},
		{"a triangle: 0.9999999999999998 is ahead of near", triangle(v(1.8, 1.9, 2.7), v(2.3, 1.2, 2.7), v(0.2, 0.6, 2.7)), ray(v(-6, 1.1, 0.1), v(7.4, 0.1, 2.6), 0), 1},
		{"a sliver: 1.01 is behind far", triangle(v(0.2, -0.9, -1.5), v(-2.2, 1.5, -1.5), v(1.5, -2.2, -1.5)), ray(v(3.6, 4.5, 0.2), v(-3.8, -5, -1.7), 0), 1},
		{"a plate: 1 is ahead of near", plate(v(2.8, 1.9, 1.8), v(0, 0, 1.2), 1.8), ray(v(5.5, 0.7, 0.3), v(-0.9, 1.2, 1.5), 0), 1.0000000000000004},
		{"a plate: 1 is behind far", plate(v(2.4, 1.4, 2), v(0, 1.5, 2), 1.2), ray(v(2.9, 0.4, 2.4), v(0.7, 1, -0.4), 0), 0.9999999999999997},
		{"a ring: 2560 is ahead of near", ring(v(0, 0, 0), v(0, 0, 1), 2, 0.5), ray(v(-5, 0, 0), v(0.0005, 0, 0), 0), 5000},
		{"a ring: 1023997184 is behind far", ring(v(api.MaxReach-3, 0, 0), v(0, 0, 1), 2, 0.5), ray(v(-api.MaxReach, 0, 0), v(0.002, 0, 0), 0), 999999750},
	} {
		got, ok, e := shape.Strike(c.s, c.r)
		if e != api.OK || !ok || !same(got, c.want) {
			t.Errorf("%s: %v, %t, %d, not %v", c.what, got, ok, e, c.want)
		}
	}
}

// Worked out elsewhere; where a product was fused into a sum, other bits would come out.
func TestStrikeBits(t *testing.T) {
	for i, c := range []struct {
		s    api.Shape
		r    api.Ray
		want float64
	}{
		{ball(v(2.2, 0.6, -2.3), 0.4), ray(v(-5.4, -3.2, -5.5), v(7.7, 4.1, 3), 0), 0.961061865053394},
		{ball(v(3, -1.3, 0), 1.2), ray(v(-2.4, 3.1, -1.1), v(5.6, -4.5, 0.8), 0), 0.8147696220193273},
		{ball(v(-1.7, 1.9, -1.2), 3), ray(v(-5, -3.9, -0.3), v(3.3, 5.9, -1), 0), 0.5464657643632409},
		{ball(v(-0.9, 0.5, -0.1), 2.2), ray(v(0.5, -5.2, -4.6), v(-1.1, 5.5, 4.2), 0), 0.7431851098539981},
		{triangle(v(3, -2.1, -0.5), v(1.1, -2.7, -2.6), v(2.2, 0.4, -2.4)), ray(v(5.6, 0.4, -3.3), v(-3.8, -2.2, 1.5), 0), 0.9480649904953192},
		{triangle(v(-2.6, -0.5, -0.6), v(2.5, 0.7, -2.6), v(-0.7, 2.9, -0.3)), ray(v(4.9, -5.4, -2.5), v(-5.5, 6.1, 1.6), 0), 1.0712597024917883},
		{triangle(v(-0.9, 1.8, -2.5), v(-0.2, -1.6, -1.9), v(0.9, 1.7, -2.7)), ray(v(-2.8, -2.1, 2.1), v(3, 2.8, -4.3), 0), 1.0631532459885178},
		{triangle(v(0.9, 1.7, -2.9), v(2, -0.4, -2.9), v(-0.3, 0.3, 1.9)), ray(v(0, 3, -5.4), v(1, -2.4, 3.9), 0), 0.9332427125811812},
		{plate(v(-2.1, 1, -1.4), v(-0.8, 0.8, -0.7), 3), ray(v(-0.1, 0.1, 0.1), v(-2.1, 0.6, -1.7), 0), 1.0059701492537316},
		{plate(v(2.8, 1.1, -0.8), v(2.1, 1.1, -2.5), 1.5), ray(v(0.1, 5.3, -3.8), v(2.7, -3.9, 3.2), 0), 0.9743202416918427},
		{plate(v(1.2, 0.7, 2.2), v(2.7, 0.3, -0.4), 1.9), ray(v(0.8, -4.1, 0.7), v(0.5, 4.5, 1.8), 0), 0.9696969696969694},
		{plate(v(-1.6, 1.7, 3), v(-2.4, -0.5, 2.6), 2.9), ray(v(-4, 3, -0.5), v(2.5, -1.3, 3.4), 0), 1.143266475644699},
		{tube(v(-2.1, -0.9, -1.4), v(0, 1.7, 0), 0.7), ray(v(-5.3, 0.2, -2.6), v(3.4, -0.6, 1.4), 0), 0.7409321673478079},
		{tube(v(-2.7, 1, 2.4), v(0, 2.5, 0), 2.5), ray(v(0.8, 2, 4.9), v(-3.5, 0.5, -2.2), 0), 0.43700779109995685},
		{tube(v(0.5, 0.1, 2.1), v(0, 0, 2), 1), ray(v(-5.3, 2.6, -1), v(5.8, -2.3, 3.9), 0), 0.8543382554587144},
		{tube(v(-1.5, 1.4, -0.2), v(-2.4, 0, 0), 0.4), ray(v(-0.1, 0.3, 1.4), v(-2.5, 1.4, -1.7), 0), 0.7135180820398088},
		{ring(v(2.6, -0.6, -1.6), v(0, -2.5, 0), 1, 0.1), ray(v(4.6, 1.5, -3.7), v(-1.1, -2.2, 1.8), 0), 0.924652099609375},
		{ring(v(-2, -2, -2.2), v(0, 0, 0.7), 2.3, 0.3), ray(v(4.5, 1.6, 0), v(-4, -3.7, -2.4), 0), 0.9892730712890625},
		{ring(v(2.5, -1.2, 0.1), v(0, 2.8, 0), 1.8, 0.7), ray(v(-2.4, -2.2, -2.8), v(6.9, 1.2, 3.1), 0), 0.451812744140625},
		{ring(v(2.2, 0.5, 2.7), v(-0.8, 0, 0), 1.9, 0.8), ray(v(-3.9, 5.5, -6), v(5.8, -3.4, 8.8), 0), 0.9148101806640625},
	} {
		got, ok, e := shape.Strike(c.s, c.r)
		if e != api.OK || !ok || !same(got, c.want) {
			t.Errorf("%d: %v, %t, %d, not %v", i, got, ok, e, c.want)
		}
	}
}
