package shape_test

import (
	"testing"

	"rayhouse/api"
	"rayhouse/shape"
)

// H4

func TestEdge(t *testing.T) {
	o := v(0, 0, 0)
	p, q := v(1, 2, 3), v(5, 7, 11)
	for _, c := range []struct {
		what string
		r    api.Ray
		p, q api.Vec
		want float64
	}{
		// Of a ray along an axis the other two numbers are the places.
		{"along X", ray(o, v(1, 0, 0), 0), p, q, 2*11 - 3*7},
		{"along Y", ray(o, v(0, 1, 0), 0), p, q, 3*5 - 1*11},
		{"along Z", ray(o, v(0, 0, 1), 0), p, q, 1*7 - 2*5},
		{"along X, backward", ray(o, v(-3, 0, 0), 0), p, q, 2*11 - 3*7},
		{"along Y, backward", ray(o, v(0, -3, minus0), 0), p, q, 3*5 - 1*11},
		{"along Z, backward", ray(o, v(minus0, 0, -3), 0), p, q, 1*7 - 2*5},
		{"from elsewhere", ray(v(1, 1, 1), v(0, 0, 1), 0), p, q, 0*6 - 1*4},
		{"wherever it begins to count", ray(v(1, 1, 1), v(0, 0, 1), 100), p, q, -4},
		{"on it", ray(v(1, 2, 0), v(0, 0, 1), 0), p, q, 0},
		{"of one point", ray(o, v(1, 2, 4), 0), p, p, 0},
		// The axis is that of the greatest number, whatever its sign; of several the first.
		{"most along Z, below 0", ray(o, v(1, 2, -4), 0), p, q, 1.75*12.5 - 3.5*7.75},
		{"most along Y, below 0", ray(o, v(1, -4, 2), 0), p, q, 4*6.75 - 1.5*14.5},
		{"most along X, below 0", ray(o, v(-4, 2, 1), 0), p, q, 2.5*12.25 - 3.25*9.5},
		{"X and Y the same", ray(o, v(2, 2, 1), 0), p, q, 1*8.5 - 2.5*2},
		{"X and Z the same, Z below 0", ray(o, v(2, 1, -2), 0), p, q, 1.5*16 - 4*4.5},
		{"Y and Z the same, Y below 0", ray(o, v(1, -2, 2), 0), p, q, 5*8.5 - 2*18},
		{"all the same", ray(o, v(-1, 1, 1), 0), p, q, 3*16 - 4*12},
	} {
		got, e := shape.Edge(c.r, c.p, c.q)
		if e != api.OK || !same(got, c.want) {
			t.Errorf("Edge %s: %v, %d, not %v", c.what, got, e, c.want)
		}
		turned, e := shape.Edge(c.r, c.q, c.p)
		if e != api.OK || turned != -c.want {
			t.Errorf("Edge %s, the other way about: %v, %d, not %v", c.what, turned, e, -c.want)
		}
	}
}

// Worked out elsewhere; where a product was fused into a sum, other bits would come out.
func TestEdgeBits(t *testing.T) {
	for i, c := range []struct {
		r    api.Ray
		p, q api.Vec
		want float64
	}{
		{ray(v(1.3, 4.1, 5.2), v(1.4, -4.6, -6.5), 0), v(0.4, 3.6, 2.3), v(3.4, 1.8, -3.2), -6.008},
		{ray(v(-2.4, 3.1, -1.1), v(5.6, -4.5, 0.8), 0), v(1.9, 0.5, -1.9), v(3.8, -2.6, 2.3), 1.1353571428571416},
		{ray(v(-5, -3.9, -0.3), v(3.3, 5.9, -1), 0), v(-2.3, 1.5, 3), v(-0.5, 1.3, 0.5), 7.247288135593221},
		{ray(v(-0.2, 5.5, 5.1), v(2.6, -5.5, -3), 0), v(3.1, 1, 1), v(1.1, 1, -2.7), 7.630000000000001},
		{ray(v(-4.7, -6, 1.2), v(5.5, 5.6, -4.2), 0), v(0.6, 3.8, -3.7), v(-3.1, -1.4, 3.8), 19.01750000000001},
		{ray(v(4.4, -0.9, 3.4), v(-4.2, 2.6, -3.4), 0), v(2.6, 2.3, 0.5), v(-3.7, -3.7, -0.5), -5.732857142857142},
		{ray(v(-5, -3.2, -4.7), v(3.4, 1.4, 5.9), 0), v(0.3, -1.4, 2.1), v(3.9, 3.8, -4), 7.855932203389829},
		{ray(v(0.1, 5.3, -3.8), v(2.7, -3.9, 3.2), 0), v(0.2, -2.9, 1), v(1.9, 1.1, -3), -12.621538461538464},
		{ray(v(0.5, -5.2, -4.6), v(-1.1, 5.5, 4.2), 0), v(-3, -0.7, -0.6), v(-3.5, -1.7, -0.6), 1.5909090909090915},
		{ray(v(5.7, 0.5, 1.3), v(-3.2, 0.2, 0.9), 0), v(-2.9, -0.5, -3.3), v(-1.7, 1.4, -3.1), 13.035625},
		{ray(v(3.7, -3.4, -2.3), v(-2.2, 2, 4.8), 0), v(-1.8, -0.6, 0.4), v(-3.8, -0.8, -3.6), 0.1691666666666638},
	} {
		if got, e := shape.Edge(c.r, c.p, c.q); e != api.OK || !same(got, c.want) {
			t.Errorf("%d: %v, %d, not %v", i, got, e, c.want)
		}
	}
}

func TestPointsOutOfReach(t *testing.T) {
	r := ray(v(0, 0, -5), v(0, 0, 1), 0)
	a, b, c := v(-1, -1, 0), v(1, -1, 0), v(0, 1, 0)
	for _, x := range outOfReach() {
		for _, put := range set() {
			p := v(0, 0, 0)
			put(&p, x)
			for i, points := range [][2]api.Vec{{p, b}, {a, p}} {
				if got, e := shape.Edge(r, points[0], points[1]); e != api.ErrReach || !same(got, 0) {
					t.Errorf("Edge of %v, at place %d: %v, %d, not 0 and ErrReach", p, i, got, e)
				}
			}
			for i, points := range [][3]api.Vec{{p, b, c}, {a, p, c}, {a, b, p}} {
				if got, e := shape.Through(r, points[0], points[1], points[2]); e != api.ErrReach || got {
					t.Errorf("Through of %v, at place %d: %t, %d, not false and ErrReach", p, i, got, e)
				}
			}
		}
	}
	far := api.MaxReach
	if ok, e := shape.Through(r, v(-far, -far, far), v(far, -far, -far), v(0, far, 0)); e != api.OK || !ok {
		t.Errorf("Through at the edge of reach: %t, %d", ok, e)
	}
}

func TestThrough(t *testing.T) {
	z := v(0, 0, 1)
	a, b, c := v(0, 0, 0), v(4, 0, 0), v(0, 4, 0)
	for _, k := range []struct {
		what string
		r    api.Ray
		want bool
	}{
		{"through it", ray(v(1, 1, -5), z, 0), true},
		{"from its other side", ray(v(1, 1, 5), v(0, 0, -1), 0), true},
		{"it is behind", ray(v(1, 1, 5), z, 0), true},
		{"wherever the ray begins to count", ray(v(1, 1, -5), z, 100), true},
		{"through the edge of a and b", ray(v(1, 0, -5), z, 0), true},
		{"through the edge of b and c", ray(v(2, 2, -5), z, 0), true},
		{"through the edge of c and a", ray(v(0, 1, -5), z, 0), true},
		{"through a", ray(v(0, 0, -5), z, 0), true},
		{"through b", ray(v(4, 0, -5), z, 0), true},
		{"through c", ray(v(0, 4, -5), z, 0), true},
		{"beside the edge of a and b", ray(v(1, -5e-324, -5), z, 0), false},
		{"beside the edge of b and c", ray(v(2, next(2), -5), z, 0), false},
		{"beside the edge of c and a", ray(v(-5e-324, 1, -5), z, 0), false},
		{"beside a", ray(v(-1, -1, -5), z, 0), false},
		{"on an edge's line, beside it", ray(v(5, 0, -5), z, 0), false},
		{"along its plane", ray(v(-5, 1, 0), v(1, 0, 0), 0), false},
		{"along its plane, aslant", ray(v(-5, -5, 0), v(1, 1, 0), 0), false},
		{"along an edge", ray(v(-5, 0, 0), v(1, 0, 0), 0), false},
		{"along beside it", ray(v(-5, 1, 1), v(1, 0, 0), 0), false},
		{"aslant", ray(v(-4, 1, -5), v(1, 0, 1), 0), true},
	} {
		for i, points := range [][3]api.Vec{{a, b, c}, {b, c, a}, {c, a, b}, {a, c, b}, {c, b, a}, {b, a, c}} {
			got, e := shape.Through(k.r, points[0], points[1], points[2])
			if e != api.OK || got != k.want {
				t.Errorf("Through, %s, order %d: %t, %d, not %t", k.what, i, got, e, k.want)
			}
		}
	}
	r := ray(v(1, 1, -5), z, 0)
	for _, flat := range [][3]api.Vec{{v(0, 0, 0), v(2, 2, 0), v(4, 4, 0)}, {v(1, 1, 0), v(1, 1, 0), v(1, 1, 0)}, {v(0, 1, 0), v(0, 1, 0), v(2, 1, 0)}} {
		if got, e := shape.Through(r, flat[0], flat[1], flat[2]); e != api.OK || got {
			t.Errorf("Through %v, which has no breadth: %t, %d", flat, got, e)
		}
	}
}

// die: numbers that look drawn, the same each time.
type die uint64

// number: from -most to most, with many bits.
func (d *die) number(most float64) float64 {
	*d = *d*6364136223846793005 + 1442695040888963407
	return (float64(uint64(*d)>>11)/(1<<52) - 1) * most
}

func (d *die) point(most float64) api.Vec {
	return v(d.number(most), d.number(most), d.number(most))
}

// Nothing slips through between two triangles with an edge in common, whichever way about each of them goes along it.
func TestNothingSlipsThrough(t *testing.T) {
	d := die(5)
	touched := 0
	for range 3000 {
		// p and q are the edge; a and b lie on both sides of it, for a ray that comes from far above.
		p, q := v(d.number(1), -5, d.number(1)), v(d.number(1), 5, d.number(1))
		a, b := v(-10+d.number(1), d.number(1), d.number(1)), v(10+d.number(1), d.number(1), d.number(1))
		k := (d.number(0.9) + 1) / 2
		on := v(p.X+k*(q.X-p.X), p.Y+k*(q.Y-p.Y), p.Z+k*(q.Z-p.Z))
		from := v(d.number(3), d.number(3), 50+d.number(5))
		r := ray(from, v(on.X-from.X, on.Y-from.Y, on.Z-from.Z), 0)
		there, _ := shape.Edge(r, p, q)
		back, _ := shape.Edge(r, q, p)
		if there != -back {
			t.Fatalf("Edge by %v of %v and %v: %v, and %v the other way about", r, p, q, there, back)
		}
		for _, left := range [][3]api.Vec{{p, q, a}, {q, p, a}} {
			for _, right := range [][3]api.Vec{{p, q, b}, {q, p, b}} {
				l, e := shape.Through(r, left[0], left[1], left[2])
				m, f := shape.Through(r, right[0], right[1], right[2])
				if e != api.OK || f != api.OK || !l && !m {
					t.Fatalf("%v slips through between %v and %v: %d, %d", r, left, right, e, f)
				}
				if l && m {
					touched++
				}
				if l && m != (there == 0) {
					t.Fatalf("%v goes through both %v and %v, but not on the edge: %v", r, left, right, there)
				}
			}
		}
	}
	if touched == 0 || touched == 4*3000 {
		t.Errorf("of %d rays %d are just on the edge: the test tells nothing", 4*3000, touched)
	}
}
