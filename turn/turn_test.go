package turn_test

import (
	"math"
	"testing"

	"rayhouse/api"
	"rayhouse/turn"
)

var (
	minus0 = math.Copysign(0, -1)
	inf    = math.Inf(1)
	none   = math.NaN()
	beyond = math.Nextafter(api.MaxReach, inf)
)

// same: the same bits; of floats that are no number it does not matter which one it is.
func same(a, b float64) bool {
	return math.Float64bits(a) == math.Float64bits(b) || a != a && b != b
}

func sameVec(a, b api.Vec) bool {
	return same(a.X, b.X) && same(a.Y, b.Y) && same(a.Z, b.Z)
}

func sameTurn(a, b api.Turn) bool {
	return sameVec(a.M[0], b.M[0]) && sameVec(a.M[1], b.M[1]) && sameVec(a.M[2], b.M[2]) && sameVec(a.T, b.T)
}

func v(x, y, z float64) api.Vec {
	return api.Vec{X: x, Y: y, Z: z}
}

func rows(a, b, c, t api.Vec) api.Turn {
	return api.Turn{M: [3]api.Vec{a, b, c}, T: t}
}

func wantVec(t *testing.T, what string, got, want api.Vec) {
	t.Helper()
	if !sameVec(got, want) {
		t.Errorf("%s: %v, not %v", what, got, want)
	}
}

func wantTurn(t *testing.T, what string, got, want api.Turn) {
	t.Helper()
	if !sameTurn(got, want) {
		t.Errorf("%s: %v, not %v", what, got, want)
	}
}

// slanted: a turn, and what its calls give, worked out elsewhere; each fused product would give other bits.
func slanted() api.Turn {
	return rows(v(-1.788, 0.963, -2.6), v(-0.251, 2.243, 0.511), v(0.385, 2.001, 2.406), v(0.41, 2.682, -1.434))
}

func other() api.Turn {
	return rows(v(-2.055, 0.794, 0.293), v(-1.373, 0.805, 1.782), v(2.69, 0.861, -2.206), v(0.9, 0.908, -2.391))
}

// T1

func TestFineAsksAllFour(t *testing.T) {
	if !turn.Fine(slanted()) || !turn.Fine(api.Turn{}) {
		t.Error("a turn within reach isn't Fine")
	}
	edge := v(api.MaxReach, -api.MaxReach, minus0)
	if !turn.Fine(rows(edge, edge, edge, edge)) {
		t.Error("a turn at the edge of reach isn't Fine")
	}
	for _, x := range []float64{beyond, -beyond, inf, -inf, none} {
		for _, w := range []api.Vec{v(x, 0, 0), v(0, x, 0), v(0, 0, x)} {
			for i := range 3 {
				bad := slanted()
				bad.M[i] = w
				if turn.Fine(bad) {
					t.Errorf("Fine is true with %v in row %d", w, i)
				}
			}
			bad := slanted()
			bad.T = w
			if turn.Fine(bad) {
				t.Errorf("Fine is true with T %v", w)
			}
		}
	}
}

func TestSameAndShift(t *testing.T) {
	x, y, z := v(1, 0, 0), v(0, 1, 0), v(0, 0, 1)
	wantTurn(t, "Same", turn.Same(), rows(x, y, z, v(0, 0, 0)))
	for _, to := range []api.Vec{v(1, -2, 3.5), v(minus0, 0, minus0), v(inf, none, -inf)} {
		wantTurn(t, "Shift", turn.Shift(to), rows(x, y, z, to))
	}
}

func TestDirAndPoint(t *testing.T) {
	whole := rows(v(1, 2, 3), v(4, 5, 6), v(7, 8, 9), v(10, 20, 30))
	wantVec(t, "Dir", turn.Dir(whole, v(1, 10, 100)), v(321, 654, 987))
	wantVec(t, "Point", turn.Point(whole, v(1, 10, 100)), v(331, 674, 1017))
	// T is added at last, so that 1 is lost here.
	wantVec(t, "Point adds T at last", turn.Point(rows(v(1, 1, 0), v(0, 0, 0), v(0, 0, 0), v(-1e16, 0, 0)), v(1e16, 1, 0)), v(0, 0, 0))
	wantVec(t, "Dir", turn.Dir(other(), slanted().T), v(0.8667959999999999, -0.9593079999999998, 6.575506))
	wantVec(t, "Point", turn.Point(other(), slanted().T), v(1.7667959999999998, -0.0513079999999998, 4.184506))
	wantVec(t, "Dir, a nought with a sign", turn.Dir(rows(v(-1, minus0, minus0), v(1, 1, 1), v(0, 0, 0), v(5, 5, 5)), v(0, 1, 1)), v(minus0, 2, 0))
	wantVec(t, "Dir of no number", turn.Dir(turn.Same(), v(none, 1, 2)), v(none, none, none))
	wantVec(t, "Point of infinity", turn.Point(rows(v(1, 1, 1), v(-1, 1, 1), v(0, 1, 1), v(0, 0, 0)), v(inf, 1, 1)), v(inf, -inf, none))
}

// T2

func TestQuarter(t *testing.T) {
	want := [3][4]api.Turn{
		{
			rows(v(1, 0, 0), v(0, 1, 0), v(0, 0, 1), api.Vec{}),
			rows(v(1, 0, 0), v(0, 0, -1), v(0, 1, 0), api.Vec{}),
			rows(v(1, 0, 0), v(0, -1, 0), v(0, 0, -1), api.Vec{}),
			rows(v(1, 0, 0), v(0, 0, 1), v(0, -1, 0), api.Vec{}),
		},
		{
			rows(v(1, 0, 0), v(0, 1, 0), v(0, 0, 1), api.Vec{}),
			rows(v(0, 0, 1), v(0, 1, 0), v(-1, 0, 0), api.Vec{}),
			rows(v(-1, 0, 0), v(0, 1, 0), v(0, 0, -1), api.Vec{}),
			rows(v(0, 0, -1), v(0, 1, 0), v(1, 0, 0), api.Vec{}),
		},
		{
			rows(v(1, 0, 0), v(0, 1, 0), v(0, 0, 1), api.Vec{}),
			rows(v(0, -1, 0), v(1, 0, 0), v(0, 0, 1), api.Vec{}),
			rows(v(-1, 0, 0), v(0, -1, 0), v(0, 0, 1), api.Vec{}),
			rows(v(0, 1, 0), v(-1, 0, 0), v(0, 0, 1), api.Vec{}),
		},
	}
	times := map[int]int{
		-9: 3, -8: 0, -5: 3, -4: 0, -3: 1, -2: 2, -1: 3, 0: 0, 1: 1, 2: 2, 3: 3, 4: 0, 5: 1, 1000003: 3,
		math.MaxInt: 3, math.MaxInt - 1: 2, math.MinInt: 0, math.MinInt + 1: 1,
	}
	for axis := range 3 {
		for n, k := range times {
			got, e := turn.Quarter(axis, n)
			if e != api.OK {
				t.Errorf("Quarter(%d, %d): error %d", axis, n, e)
			}
			wantTurn(t, "Quarter", got, want[axis][k])
		}
	}
}

func TestQuarterRefuses(t *testing.T) {
	for _, axis := range []int{-1, 3, 4, -3, math.MaxInt, math.MinInt} {
		got, e := turn.Quarter(axis, 1)
		if e != api.ErrKind {
			t.Errorf("Quarter(%d, 1): error %d", axis, e)
		}
		wantTurn(t, "Quarter, refused", got, api.Turn{})
	}
}

// T3

func TestThen(t *testing.T) {
	a := rows(v(1, 2, 3), v(4, 5, 6), v(7, 8, 9), v(1, 10, 100))
	b := rows(v(1, 0, 2), v(0, 3, 0), v(1, 1, 1), v(1000, 2000, 3000))
	wantTurn(t, "Then", turn.Then(a, b), rows(v(15, 18, 21), v(12, 15, 18), v(12, 15, 18), v(1201, 2030, 3111)))
	wantTurn(t, "Then", turn.Then(slanted(), other()), rows(
		v(3.587851, 0.3882699999999999, 6.453692),
		v(2.938939, 4.0491980000000005, 8.268647000000001),
		v(-5.875141, 0.10748699999999989, -11.861665),
		v(1.7667959999999998, -0.0513079999999998, 4.184506)))
	// -1 times 0, and 0: the sum has no sign any more.
	half, _ := turn.Quarter(2, 2)
	wantTurn(t, "Then of two halves", turn.Then(half, half), turn.Same())
	wantTurn(t, "Then at no number", turn.Then(turn.Same(), turn.Shift(v(none, inf, 1))), turn.Shift(v(none, inf, 1)))
}

func TestBack(t *testing.T) {
	for _, c := range []struct{ in, want api.Turn }{
		{turn.Same(), rows(v(1, 0, 0), v(0, 1, 0), v(0, 0, 1), v(minus0, minus0, minus0))},
		{turn.Shift(v(1, -2, 3)), turn.Shift(v(-1, 2, -3))},
		{rows(v(2, 0, 0), v(0, 4, 0), v(0, 0, -8), v(2, 2, 2)), rows(v(0.5, minus0, minus0), v(minus0, 0.25, minus0), v(minus0, minus0, -0.125), v(-1, -0.5, 0.25))},
		{rows(v(1, 1, 0), v(0, 1, 0), v(0, 0, 1), v(5, 7, 9)), rows(v(1, -1, 0), v(0, 1, 0), v(0, 0, 1), v(2, -7, -9))},
		{slanted(), rows(
			v(-1.2501627840016698, 2.149149666665914, -1.8074142635372497),
			v(-0.22882897660866927, 0.9434290475992377, -0.4476506992958232),
			v(0.39035721281570657, -1.1285220889079184, 1.0771419537625866),
			v(-7.843284718469713, -3.0783879280418116, 4.411271346892146))},
		// det is above 0, but so small that what comes out is infinite.
		{rows(v(5e-324, 0, 0), v(0, 1, 0), v(0, 0, 1), v(1, 1, 1)), rows(v(inf, 0, 0), v(0, 1, 0), v(0, 0, 1), v(-inf, -1, -1))},
		{rows(v(api.MaxReach, 0, 0), v(0, api.MaxReach, 0), v(0, 0, api.MaxReach), v(api.MaxReach, 0, -api.MaxReach)), rows(v(1e-6, 0, 0), v(0, 1e-6, 0), v(0, 0, 1e-6), v(-1, minus0, 1))},
	} {
		got, e := turn.Back(c.in)
		if e != api.OK {
			t.Errorf("Back(%v): error %d", c.in, e)
		}
		wantTurn(t, "Back", got, c.want)
	}
}

func TestBackRefuses(t *testing.T) {
	flat := slanted()
	flat.M[2] = flat.M[0]
	for _, c := range []struct {
		in   api.Turn
		want api.Errno
	}{
		{api.Turn{}, api.ErrZero},
		{rows(v(1, 2, 3), v(2, 4, 6), v(0, 0, 1), v(1, 1, 1)), api.ErrZero},
		{flat, api.ErrZero},
		{rows(v(1e-200, 0, 0), v(0, 1e-200, 0), v(0, 0, 1e-200), api.Vec{}), api.ErrZero},
		{rows(v(-1, 0, 0), v(0, 0, 1), v(0, 0, 1), api.Vec{}), api.ErrZero},
		{turn.Shift(v(0, beyond, 0)), api.ErrReach},
		{rows(v(-beyond, 0, 0), v(0, 1, 0), v(0, 0, 1), api.Vec{}), api.ErrReach},
		{rows(v(1, 0, 0), v(0, none, 0), v(0, 0, 1), api.Vec{}), api.ErrReach},
		{rows(v(1, 0, 0), v(0, 1, 0), v(0, 0, inf), api.Vec{}), api.ErrReach},
		// Both apply: the one named first is told.
		{rows(v(0, 0, 0), v(0, 0, 0), v(0, 0, 0), v(0, 0, -inf)), api.ErrReach},
	} {
		got, e := turn.Back(c.in)
		if e != c.want {
			t.Errorf("Back(%v): error %d, not %d", c.in, e, c.want)
		}
		wantTurn(t, "Back, refused", got, api.Turn{})
	}
}

// T4

func wantBox(t *testing.T, what string, got, want api.Box) {
	t.Helper()
	wantVec(t, what+": Lo", got.Lo, want.Lo)
	wantVec(t, what+": Hi", got.Hi, want.Hi)
}

func TestBox(t *testing.T) {
	b := api.Box{Lo: v(-1, 2, 3), Hi: v(4, 5, 7)}
	quarter, _ := turn.Quarter(2, 1)
	wantBox(t, "Same", turn.Box(turn.Same(), b), b)
	wantBox(t, "Shift", turn.Box(turn.Shift(v(1, 2, -3)), b), api.Box{Lo: v(0, 4, 0), Hi: v(5, 7, 4)})
	wantBox(t, "a quarter", turn.Box(quarter, b), api.Box{Lo: v(-5, -1, 3), Hi: v(-2, 4, 7)})
	wantBox(t, "rows that lean", turn.Box(rows(v(1, -1, 1), v(1, 1, -1), v(-1, -1, -1), v(10, 20, 30)), b), api.Box{Lo: v(7, 14, 14), Hi: v(19, 26, 26)})
	wantBox(t, "corners the other way about", turn.Box(turn.Same(), api.Box{Lo: b.Hi, Hi: b.Lo}), b)
	wantBox(t, "all in one point", turn.Box(api.Turn{T: v(1, 2, 3)}, b), api.Box{Lo: v(1, 2, 3), Hi: v(1, 2, 3)})
}

// Each corner alone reaches farthest one way: none may be left out, and none mixed up.
func TestBoxAsksAllEightCorners(t *testing.T) {
	for k := range 8 {
		far := [3]float64{-1, -1, -1}
		for i := range 3 {
			if k>>i&1 == 1 {
				far[i] = 1
			}
		}
		row := v(far[0], 10*far[1], 100*far[2])
		got := turn.Box(rows(row, v(0, 0, 0), row, v(0, 0, 0)), api.Box{Lo: v(-1, -1, -1), Hi: v(1, 1, 1)})
		wantBox(t, "corner", got, api.Box{Lo: v(-111, 0, -111), Hi: v(111, 0, 111)})
	}
}

// The rows are such that a nought of the box keeps its sign: of -0 and 0 the first is told, as the least and as the most.
func TestBoxKeepsTheFirstNought(t *testing.T) {
	keeps := rows(v(1, minus0, minus0), v(minus0, 1, minus0), v(minus0, minus0, 1), v(minus0, minus0, minus0))
	for k := range 3 {
		plain, signed := v(1, 1, 1), v(1, 1, 1)
		*number(&plain, k), *number(&signed, k) = 0, minus0
		wantBox(t, "0, then -0", turn.Box(keeps, api.Box{Lo: plain, Hi: signed}), api.Box{Lo: plain, Hi: plain})
		wantBox(t, "-0, then 0", turn.Box(keeps, api.Box{Lo: signed, Hi: plain}), api.Box{Lo: signed, Hi: signed})
	}
}

func number(w *api.Vec, k int) *float64 {
	return [3]*float64{&w.X, &w.Y, &w.Z}[k]
}

func TestBoxAtAnyFloats(t *testing.T) {
	wide := turn.Box(rows(v(1, 1, 1), v(-1, 1, 1), v(1, 1, 1), v(0, 0, 0)), api.Box{Lo: v(-inf, 1, 1), Hi: v(5, 2, 2)})
	wantBox(t, "infinite", wide, api.Box{Lo: v(-inf, -3, -inf), Hi: v(9, inf, 9)})
	lost := turn.Box(turn.Same(), api.Box{Lo: v(none, 0, 0), Hi: v(none, 1, 1)})
	wantBox(t, "no number", lost, api.Box{Lo: v(none, none, none), Hi: v(none, none, none)})
}
