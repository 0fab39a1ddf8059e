package vec_test

import (
	"math"
	"testing"

	"rayhouse/api"
	"rayhouse/vec"
)

var (
	minus0 = math.Copysign(0, -1)
	inf    = math.Inf(1)
	none   = math.NaN()
	beyond = math.Nextafter(api.MaxReach, inf)
	small  = 1 / float64(api.MaxReach)
)

// edges: the floats at which something changes, and some ordinary ones.
func edges() []float64 {
	l := []float64{
		0, minus0, 1, -1, 0.1, -0.3, 3, 1e16, -1e16, 5e-324, -5e-324, 1e-200, 1e200, -1e200,
		math.MaxFloat64, -math.MaxFloat64, inf, -inf, none,
	}
	for _, x := range []float64{api.MaxReach, small} {
		for _, y := range []float64{math.Nextafter(x, 0), x, math.Nextafter(x, inf)} {
			l = append(l, y, -y)
		}
	}
	return l
}

// same: the same bits; of floats that are no number it does not matter which one it is.
func same(a, b float64) bool {
	return math.Float64bits(a) == math.Float64bits(b) || a != a && b != b
}

func sameVec(a, b api.Vec) bool {
	return same(a.X, b.X) && same(a.Y, b.Y) && same(a.Z, b.Z)
}

func v(x, y, z float64) api.Vec {
	return api.Vec{X: x, Y: y, Z: z}
}

func wantVec(t *testing.T, what string, got, want api.Vec) {
	t.Helper()
	if !sameVec(got, want) {
		t.Errorf("%s: %v, not %v", what, got, want)
	}
}

func wantFloat(t *testing.T, what string, got, want float64) {
	t.Helper()
	if !same(got, want) {
		t.Errorf("%s: %v, not %v", what, got, want)
	}
}

// V1

func TestNear(t *testing.T) {
	yes := []float64{0, minus0, 1, -1, 5e-324, api.MaxReach, -api.MaxReach, math.Nextafter(api.MaxReach, 0)}
	no := []float64{beyond, -beyond, math.MaxFloat64, inf, -inf, none}
	for _, x := range yes {
		if !vec.Near(x) {
			t.Errorf("Near(%v) is false", x)
		}
	}
	for _, x := range no {
		if vec.Near(x) {
			t.Errorf("Near(%v) is true", x)
		}
	}
}

func TestFineAsksAllThree(t *testing.T) {
	if !vec.Fine(v(api.MaxReach, -api.MaxReach, minus0)) {
		t.Error("a vector within reach isn't Fine")
	}
	for _, x := range []float64{beyond, -beyond, inf, -inf, none} {
		for _, w := range []api.Vec{v(x, 0, 0), v(0, x, 0), v(0, 0, x), v(x, x, x)} {
			if vec.Fine(w) {
				t.Errorf("Fine(%v) is true", w)
			}
		}
	}
}

func TestNumberByNumber(t *testing.T) {
	a, b := v(1, -2, 0.5), v(0.25, 8, -3)
	wantVec(t, "Add", vec.Add(a, b), v(1.25, 6, -2.5))
	wantVec(t, "Sub", vec.Sub(a, b), v(0.75, -10, 3.5))
	wantVec(t, "Scale", vec.Scale(a, -3), v(-3, 6, -1.5))
	wantVec(t, "Over", vec.Over(a, 4), v(0.25, -0.5, 0.125))
	// 5 and 7 times a third, rounded twice, would be a float less.
	wantVec(t, "Over rounds once", vec.Over(v(5, 7, -5), 3), v(1.6666666666666667, 2.3333333333333335, -1.6666666666666667))
}

func TestNumberByNumberAtAnyFloats(t *testing.T) {
	l := edges()
	for i, x := range l {
		for j, y := range l {
			p, q := l[(i+5)%len(l)], l[(j+11)%len(l)]
			a, b := v(x, p, x), v(y, q, p)
			wantVec(t, "Add", vec.Add(a, b), v(x+y, p+q, x+p))
			wantVec(t, "Sub", vec.Sub(a, b), v(x-y, p-q, x-p))
			wantVec(t, "Scale", vec.Scale(a, y), v(x*y, p*y, x*y))
			wantVec(t, "Over", vec.Over(a, y), v(x/y, p/y, x/y))
		}
	}
}

func TestSignsOfNought(t *testing.T) {
	wantVec(t, "Add", vec.Add(v(minus0, minus0, 0), v(minus0, 0, minus0)), v(minus0, 0, 0))
	wantVec(t, "Sub", vec.Sub(v(minus0, 0, minus0), v(0, 0, minus0)), v(minus0, 0, 0))
	wantVec(t, "Scale", vec.Scale(v(0, minus0, 1), minus0), v(minus0, 0, minus0))
	wantVec(t, "Over", vec.Over(v(0, minus0, 1), minus0), v(none, none, -inf))
	wantFloat(t, "Dot", vec.Dot(v(minus0, 1, -1), v(1, minus0, 0)), minus0)
	wantFloat(t, "Dot", vec.Dot(v(minus0, 1, 1), v(1, minus0, 0)), 0)
	wantVec(t, "Cross", vec.Cross(v(0, 0, 1), v(0, -1, 0)), v(1, 0, minus0))
	wantVec(t, "Cross", vec.Cross(v(1, minus0, 0), v(1, 1, 1)), v(minus0, -1, 1))
	wantFloat(t, "Length", vec.Length(v(minus0, minus0, minus0)), 0)
}

// The inputs are such that each fused product, and each other order of the sums, gives other bits.
func TestDot(t *testing.T) {
	for _, c := range []struct {
		a, b api.Vec
		want float64
	}{
		{v(0.1, 0.2, 0.3), v(1, 2, 3), 1.4},
		{v(1.28, 2.145, 2.474), v(7.275, 5.948, -6.747), 5.378382000000002},
		{v(5.026, 8.856, 7.422), v(-3.394, 3.429, -1.347), 3.311545999999998},
		{v(-8.327, -7.497, 1.828), v(-5.921, 7.732, 6.865), 3.8865829999999963},
		{v(1e16, 1, -1e16), v(1, 1, 1), 0},
		{v(1e16, -1e16, 1), v(1, 1, 1), 1},
		{v(1e200, 1e200, 1), v(1e200, -1e200, 1), none},
		{v(1e200, 0, 0), v(1e200, 0, 0), inf},
		{v(1e-200, 0, 0), v(1e-200, 0, 0), 0},
		{v(inf, 0, 0), v(0, 1, 1), none},
		{v(inf, 1, 1), v(-1, 1, 1), -inf},
		{v(0, none, 0), v(0, 0, 0), none},
	} {
		wantFloat(t, "Dot", vec.Dot(c.a, c.b), c.want)
		wantFloat(t, "Dot, the other way about", vec.Dot(c.b, c.a), c.want)
	}
}

func TestCross(t *testing.T) {
	for _, c := range []struct{ a, b, want api.Vec }{
		{v(1, 0, 0), v(0, 1, 0), v(0, 0, 1)},
		{v(1, 2, 3), v(4, 5, 6), v(-3, 6, -3)},
		{v(-8.303, 5.413, -5.279), v(-8.314, 6.992, -5.382), v(7.778001999999997, -0.7971399999999988, -13.050894)},
		{v(-2.484, -1.54, -3.717), v(4.439, 2.683, 5.286), v(1.8322710000000004, -3.369339000000002, 0.17148800000000008)},
		{v(inf, 1, 1), v(1, 1, 1), v(0, -inf, inf)},
		{v(inf, 1, 1), v(inf, 1, 1), v(0, none, none)},
		{v(none, 1, 2), v(1, 1, 1), v(-1, none, none)},
		{v(1e200, 1e200, 0), v(0, 1e200, 1e200), v(inf, -inf, inf)},
	} {
		wantVec(t, "Cross", vec.Cross(c.a, c.b), c.want)
	}
}

func TestLength(t *testing.T) {
	for _, c := range []struct {
		a    api.Vec
		want float64
	}{
		{v(3, 4, 0), 5},
		{v(-2, 3, -6), 7},
		{v(1.564, -0.862, -7.546), 7.754434602213111},
		{v(-6.558, 0.843, 3.167), 7.331296065498923},
		{v(0, 0, 0), 0},
		{v(1e-200, 1e-200, -1e-200), 0},
		{v(1e200, 0, 0), inf},
		{v(0, -inf, 0), inf},
		{v(0, inf, none), none},
	} {
		wantFloat(t, "Length", vec.Length(c.a), c.want)
	}
}

// V2

func TestUnit(t *testing.T) {
	for _, c := range []struct{ a, want api.Vec }{
		{v(3, 4, 0), v(0.6, 0.8, 0)},
		{v(0, minus0, -2), v(0, minus0, -1)},
		{v(api.MaxReach, 0, 0), v(1, 0, 0)},
		{v(0, -api.MaxReach, 0), v(0, -1, 0)},
		{v(1.564, -0.862, -7.546), v(0.20169104263947696, -0.11116219869260174, -0.9731205931953281)},
		{v(-6.558, 0.843, 3.167), v(-0.8945212335458591, 0.1149864897650441, 0.4319836454162451)},
	} {
		got, e := vec.Unit(c.a)
		if e != api.OK {
			t.Errorf("Unit(%v): error %d", c.a, e)
		}
		wantVec(t, "Unit", got, c.want)
	}
	// Short, but its square is a float above 0: it comes out as the formula has it, not with the length 1.
	short := 2e-162
	got, e := vec.Unit(v(short, 0, 0))
	if e != api.OK {
		t.Errorf("Unit of a short one: error %d", e)
	}
	wantVec(t, "Unit of a short one", got, v(short/math.Sqrt(short*short), 0, 0))
}

func TestUnitRefuses(t *testing.T) {
	for _, c := range []struct {
		a    api.Vec
		want api.Errno
	}{
		{v(0, 0, 0), api.ErrZero},
		{v(minus0, 0, minus0), api.ErrZero},
		{v(1e-200, -1e-200, 5e-324), api.ErrZero},
		{v(beyond, 0, 0), api.ErrReach},
		{v(0, -beyond, 0), api.ErrReach},
		{v(0, 0, inf), api.ErrReach},
		{v(-inf, 0, 0), api.ErrReach},
		{v(0, none, 0), api.ErrReach},
	} {
		got, e := vec.Unit(c.a)
		if e != c.want {
			t.Errorf("Unit(%v): error %d, not %d", c.a, e, c.want)
		}
		wantVec(t, "Unit, refused", got, api.Vec{})
	}
}

func TestClean(t *testing.T) {
	below := math.Nextafter(small, 0)
	above := math.Nextafter(small, 1)
	for _, x := range []float64{0, minus0, below, -below, 5e-324, -5e-324, 1e-7, -1e-7} {
		wantVec(t, "Clean of what is nearly nought", vec.Clean(v(x, 1, -1)), v(0, 1, -1))
		wantVec(t, "Clean of what is nearly nought", vec.Clean(v(1, x, -1)), v(1, 0, -1))
		wantVec(t, "Clean of what is nearly nought", vec.Clean(v(1, -1, x)), v(1, -1, 0))
	}
	for _, x := range []float64{small, -small, above, -above, 1e-6, 1, -beyond, beyond, math.MaxFloat64, inf, -inf, none} {
		wantVec(t, "Clean of what stays", vec.Clean(v(x, 0, x)), v(x, 0, x))
		wantVec(t, "Clean of what stays", vec.Clean(v(0, x, 0)), v(0, x, 0))
	}
}

// V3

func TestMirror(t *testing.T) {
	for _, c := range []struct{ d, n, want api.Vec }{
		{v(1, -1, 0), v(0, 1, 0), v(1, 1, 0)},
		{v(1, -1, 2), v(0, -1, 0), v(1, 1, 2)},
		{v(0, 0, 1), v(0, 0, 2), v(0, 0, -7)},
		{v(6.65, 7.229, -1.502), v(6.545, 6.599, 4.565), v(-1097.7767441899998, -1106.309897618, -771.81645183)},
		{v(-5.608, 2.753, -3.341), v(-3.237, 1.719, 6.411), v(3.8851628480000047, -2.2883181760000024, -22.14256534400001)},
		{v(minus0, 1, 0), v(1, 0, 0), v(minus0, 1, 0)},
		{v(inf, 0, 0), v(1, 0, 0), v(none, none, none)},
		{v(1, none, 0), v(1, 0, 0), v(none, none, none)},
	} {
		wantVec(t, "Mirror", vec.Mirror(c.d, c.n), c.want)
	}
}

func TestBend(t *testing.T) {
	for _, c := range []struct {
		d, n api.Vec
		eta  float64
		want api.Vec
	}{
		{v(0, -1, 0), v(0, 1, 0), 0.5, v(0, -1, 0)},
		{v(0.6, -0.8, 0), v(0, 1, 0), 1, v(0.6, -0.8, 0)},
		{v(0.8272316787232272, 0.19518728419398051, -0.5268677953772934), v(0.7664025112669958, -0.37520368857691777, -0.521391774773939), 1.713, v(0.06166107354501582, 0.9979054753098768, 0.01955950806757245)},
		{v(0.20512329630283563, -0.4149051770497385, -0.8864412712476694), v(0.5794920249260159, -0.35442697129550516, -0.7338736369876225), 1.797, v(-0.9884717748966434, 0.08442710465509884, 0.12568060404149506)},
		// k is 0; a fused product would make it less.
		{v(0, -0.318, 0), v(0, 1, 0), 1.0547513928055394, v(0, 0, 0)},
		{v(0, -0.224, 0), v(0, 1, 0), 1.0260734032871919, v(0, 0, 0)},
		// c is -0, and k 0.
		{v(minus0, 1, 0), v(1, 0, 0), 1, v(minus0, 1, 0)},
		{v(0, -2, 0), v(0, 1, 0), 1, v(0, -2, 0)},
		{v(1, 0, 0), v(0, 1, 0), -0.5, v(-0.5, -0.8660254037844386, minus0)},
		// c * c is infinite, and so k.
		{v(1e200, 0, 0), v(1, 0, 0), 1, v(-inf, none, none)},
	} {
		got, ok := vec.Bend(c.d, c.n, c.eta)
		if !ok {
			t.Errorf("Bend(%v, %v, %v) is false", c.d, c.n, c.eta)
		}
		wantVec(t, "Bend", got, c.want)
	}
}

func TestBendRefuses(t *testing.T) {
	side, up := v(1, 0, 0), v(0, 1, 0)
	for _, c := range []struct {
		d, n api.Vec
		eta  float64
	}{
		{side, up, math.Nextafter(1, 2)},
		{side, up, -math.Nextafter(1, 2)},
		{v(0, -0.324, 0), up, 1.057018672940986},
		{v(0, -0.203, 0), up, 1.0212640059348177},
		{side, up, 2},
		{side, up, inf},
		{side, up, none},
		{v(none, 0, 0), up, 1},
		{v(inf, 0, 0), up, 1},
		{v(0, -1, 0), up, inf},
	} {
		got, ok := vec.Bend(c.d, c.n, c.eta)
		if ok {
			t.Errorf("Bend(%v, %v, %v) is true", c.d, c.n, c.eta)
		}
		wantVec(t, "Bend, refused", got, api.Vec{})
	}
}

// oneByOne works Mirror and Bend out as V3 writes them, each operation rounded by itself.
func oneByOne(d, n api.Vec, eta float64) (mirror, bend api.Vec, ok bool) {
	dot := float64(d.X*n.X) + float64(d.Y*n.Y)
	dot = dot + float64(d.Z*n.Z)
	twice := float64(2 * dot)
	mirror = v(d.X-float64(n.X*twice), d.Y-float64(n.Y*twice), d.Z-float64(n.Z*twice))
	c := math.Copysign(dot, -1)
	if math.Signbit(dot) {
		c = math.Copysign(dot, 1)
	}
	k := 1 - float64(float64(eta*eta)*float64(1-float64(c*c)))
	if k < 0 || k != k {
		return mirror, api.Vec{}, false
	}
	m := float64(eta*c) - math.Sqrt(k)
	bend = v(float64(d.X*eta)+float64(n.X*m), float64(d.Y*eta)+float64(n.Y*m), float64(d.Z*eta)+float64(n.Z*m))
	return mirror, bend, true
}

func TestMirrorAndBendAtAnyFloats(t *testing.T) {
	l := edges()
	for i, x := range l {
		for j, y := range l {
			for _, eta := range l {
				d := v(x, y, l[(i+j)%len(l)])
				n := v(l[(i+7)%len(l)], l[(j+3)%len(l)], x)
				mirror, bend, ok := oneByOne(d, n, eta)
				wantVec(t, "Mirror", vec.Mirror(d, n), mirror)
				got, is := vec.Bend(d, n, eta)
				if is != ok {
					t.Fatalf("Bend(%v, %v, %v) is %v", d, n, eta, is)
				}
				wantVec(t, "Bend", got, bend)
			}
		}
	}
}
