package bounce_test

import (
	"math"
	"testing"

	"rayhouse/api"
	"rayhouse/bounce"
	"rayhouse/scene"
	"rayhouse/slab"
)

// same: the same bits.
func same(a, b float64) bool {
	return math.Float64bits(a) == math.Float64bits(b)
}

func sameVec(a, b api.Vec) bool {
	return same(a.X, b.X) && same(a.Y, b.Y) && same(a.Z, b.Z)
}

func sameRay(a, b api.Ray) bool {
	return sameVec(a.From, b.From) && sameVec(a.Dir, b.Dir) && same(a.Least, b.Least)
}

// ahead: an eye at a place that looks along Z; right is where X falls.
func ahead(at api.Vec, wide float64) api.Eye {
	return api.Eye{At: at, To: v(at.X, at.Y, at.Z+8), Up: v(0, 4, 0), Wide: wide}
}

// L3

func TestRay(t *testing.T) {
	const half, all = api.Full / 2, api.Full
	o := v(0, 0, 0)
	for _, c := range []struct {
		e    api.Eye
		u, v int
		tall float64
		want api.Vec
	}{
		{ahead(o, 2), half, half, 1, v(0, 0, 1)},
		{ahead(o, 2), 0, half, 1, v(1, 0, 1)},
		{ahead(o, 2), all, half, 1, v(-1, 0, 1)},
		{ahead(o, 2), half, 0, 1, v(0, 1, 1)},
		{ahead(o, 2), half, all, 1, v(0, -1, 1)},
		{ahead(o, 2), 0, 0, 1, v(1, 1, 1)},
		{ahead(o, 2), all, all, 1, v(-1, -1, 1)},
		{ahead(o, 2), 0, all, 0.5, v(1, -0.5, 1)},
		{ahead(o, 2), all, 0, 2, v(-1, 2, 1)},
		{ahead(o, 3), all / 4, all / 8, 0.5, v(0.75, 0.5625, 1)},
		{ahead(v(7, minus0, -3), 1), half, 0, 1, v(0, 0.5, 1)},
		{ahead(o, 1), half - 1, half + 1, 1, v(1.0/65536, -1.0/65536, 1)},
		// What is nearly nought is nought.
		{ahead(o, 0.06), half - 1, half + 1, 1, v(0, 0, 1)},
		{ahead(o, 0.07), half - 1, half + 1, 0.5, v(0.07/65536, 0, 1)},
		{ahead(o, 5e-324), 0, all, 1, v(0, 0, 1)},
		// How tall it may be.
		{ahead(o, 2), 0, half, api.MaxReach, v(1, 0, 1)},
		{ahead(o, 2), half, 0, api.MaxReach, v(0, api.MaxReach, 1)},
		{ahead(o, 2), 0, 0, 5e-324, v(1, 0, 1)},
		{ahead(o, api.MaxReach), 0, 0, 1, v(500000, 500000, 1)},
		// Other ways to look, and to stand.
		{api.Eye{To: v(5, 0, 0), Up: v(0, 0, 1), Wide: 2}, 0, 0, 1, v(1, 1, 1)},
		{api.Eye{To: v(0, -5, 0), Up: v(3, 0, 0), Wide: 2}, all, 0, 1, v(1, -1, 1)},
		{api.Eye{To: v(0, 0, 5), Up: v(0, 1, 9), Wide: 2}, 0, 0, 1, v(1, 1, 1)},
		{api.Eye{To: v(0, 0, 5), Up: v(0, -1, 0), Wide: 2}, 0, 0, 1, v(-1, -1, 1)},
	} {
		want := ray(c.e.At, c.want)
		if r, e := bounce.Ray(c.e, c.u, c.v, c.tall); e != api.OK || r != want || !sameVec(r.From, c.e.At) || !same(r.Least, 0) {
			t.Errorf("Ray of %+v, %d, %d, %v: %v, %d, not %v", c.e, c.u, c.v, c.tall, r, e, want)
		}
	}
}

// Each error, in the order in which they are told, and the ray is 0.
func TestRayRefuses(t *testing.T) {
	good := ahead(v(0, 0, 0), 2)
	eyes := []api.Eye{
		{}, {At: v(none, 0, 0), To: v(0, 0, 1), Up: v(0, 1, 0), Wide: 1}, {To: v(0, 0, beyond), Up: v(0, 1, 0), Wide: 1},
		{To: v(0, 0, 1), Up: v(0, inf, 0), Wide: 1}, {To: v(0, 0, 1), Up: v(0, 1, 0), Wide: none}, {To: v(0, 0, 1), Up: v(0, 1, 0), Wide: -1},
		{Up: v(0, 1, 0), Wide: 1}, {To: v(0, 0, 1), Up: v(0, 0, 5), Wide: 1}, {To: v(0, 0, 1), Wide: 1},
		{At: v(-api.MaxReach, 0, 0), To: v(1, 0, 0), Up: v(0, 1, 0), Wide: 1},
	}
	talls := []float64{0, minus0, -1, -5e-324, none, inf, -inf, beyond, -beyond, -api.MaxReach}
	places := []int{-1, api.Full + 1, math.MinInt, math.MaxInt}
	refused := func(e api.Eye, u, v int, tall float64, want api.Errno) {
		t.Helper()
		if r, got := bounce.Ray(e, u, v, tall); got != want || !sameRay(r, api.Ray{}) {
			t.Errorf("Ray of %+v, %d, %d, %v: %v, %d, not %d", e, u, v, tall, r, got, want)
		}
	}
	for _, e := range eyes {
		if scene.MayEye(e) == api.OK {
			t.Fatalf("%+v may be: the test tells nothing", e)
		}
		for _, u := range append(places, 0) {
			for _, tall := range append(talls, 1) {
				refused(e, u, 0, tall, scene.MayEye(e))
			}
		}
	}
	for _, tall := range talls {
		for _, u := range append(places, 0, api.Full) {
			refused(good, u, 0, tall, api.ErrReach)
			refused(good, 0, u, tall, api.ErrReach)
		}
	}
	for _, u := range places {
		for _, w := range []int{0, api.Full, -1} {
			refused(good, u, w, 1, api.ErrValue)
			refused(good, w, u, api.MaxReach, api.ErrValue)
		}
	}
}

// What Fine says of the ray is said, and the ray is told even so.
func TestRayThatIsNotFine(t *testing.T) {
	for _, c := range []struct {
		e    api.Eye
		u, v int
		tall float64
		want api.Vec
	}{
		{ahead(v(1, 2, 3), api.MaxReach), 0, 0, api.MaxReach, v(500000, 5e11, 1)},
		{ahead(v(1, 2, 3), 4), api.Full, api.Full, api.MaxReach, v(-2, -2e6, 1)},
		{ahead(v(minus0, 2, 3), 4), api.Full / 2, 0, 750000, v(0, 1.5e6, 1)},
		{ahead(v(1, 2, 3), 2), 0, 0, api.MaxReach, v(1, api.MaxReach, 1)},
		{ahead(v(1, 2, 3), math.Nextafter(2, 3)), 0, 0, api.MaxReach, v(1, math.Nextafter(beyond, inf), 1)},
	} {
		r, e := bounce.Ray(c.e, c.u, c.v, c.tall)
		want := ray(c.e.At, c.want)
		// A number beside may be an ulp off: it hangs on Wide.
		if e != slab.Fine(want) || !sameVec(r.From, c.e.At) || !same(r.Dir.Y, c.want.Y) || math.Abs(r.Dir.X-c.want.X) > 1e-9 || r.Dir.Z != 1 || r.Least != 0 {
			t.Errorf("Ray of %+v, %d, %d, %v: %v, %d, not %v", c.e, c.u, c.v, c.tall, r, e, want)
		}
	}
	if _, e := bounce.Ray(ahead(v(0, 0, 0), api.MaxReach), 0, 0, api.MaxReach); e != api.ErrReach {
		t.Errorf("far out of reach: %d", e)
	}
}

// secondRay: L3 once more, number by number.
func secondRay(e api.Eye, u, v int, tall float64) api.Ray {
	at, to, up := numbers(e.At), numbers(e.To), numbers(e.Up)
	f := through(minus(to, at), length(minus(to, at)))
	g := square(f, up)
	r := through(g, length(g))
	o := square(r, f)
	x := float64((float64(u)/65536 - 0.5) * e.Wide)
	y := float64(float64((0.5-float64(v)/65536)*e.Wide) * tall)
	var dir three
	for i := range dir {
		dir[i] = float64(f[i]+float64(r[i]*x)) + float64(o[i]*y)
	}
	return api.Ray{From: e.At, Dir: vector(cleaned(dir))}
}

func TestRayHeldAgainstASecondWorking(t *testing.T) {
	d := die(23)
	told := 0
	for range 5000 {
		e := api.Eye{At: d.point(6), To: d.point(6), Up: d.point(2), Wide: d.size()}
		u, w, tall := d.n(api.Full+1), d.n(api.Full+1), d.size()
		if d.n(9) == 0 {
			e.Wide, tall = e.Wide*400000, tall*100
		}
		if scene.MayEye(e) != api.OK {
			continue
		}
		want := secondRay(e, u, w, tall)
		r, no := bounce.Ray(e, u, w, tall)
		if !sameRay(r, want) || no != slab.Fine(want) {
			t.Fatalf("Ray of %+v, %d, %d, %v: %v, %d, not %v", e, u, w, tall, r, no, want)
		}
		if no != api.OK {
			told++
		}
	}
	if told < 100 {
		t.Errorf("only %d rays are not Fine: the test tells little", told)
	}
}
