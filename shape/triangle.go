package shape

import (
	"math"

	"rayhouse/api"
	"rayhouse/slab"
	"rayhouse/vec"
)

// Edge is on which side of the way from p to q a ray goes by: above 0, below, or on it.
func Edge(r api.Ray, p, q api.Vec) (float64, api.Errno) {
	if e := mayPass(r, p, q); e != api.OK {
		return 0, e
	}
	l := lookAlong(r)
	return edge(l.place(p), l.place(q)), api.OK
}

// Through says whether a ray goes through a triangle, by its edges alone.
func Through(r api.Ray, a, b, c api.Vec) (bool, api.Errno) {
	if e := mayPass(r, a, b, c); e != api.OK {
		return false, e
	}
	l := lookAlong(r)
	return edgesOf(l.place(a), l.place(b), l.place(c)).through(), api.OK
}

// mayPass says whether a ray may be, and points that it goes by.
func mayPass(r api.Ray, points ...api.Vec) api.Errno {
	if e := slab.Fine(r); e != api.OK {
		return e
	}
	for _, p := range points {
		if !vec.Fine(p) {
			return api.ErrReach
		}
	}
	return api.OK
}

// look is how a ray sees points: z is the axis that it goes along most.
type look struct {
	from    api.Vec
	dir     [3]float64
	x, y, z int
}

func lookAlong(r api.Ray) look {
	l := look{from: r.From, dir: numbers(r.Dir)}
	for i, x := range l.dir {
		if math.Abs(x) > math.Abs(l.dir[l.z]) {
			l.z = i
		}
	}
	l.x = (l.z + 1) % 3
	l.y = (l.x + 1) % 3
	return l
}

// place is where a point is for a ray: how far beside it, twice, and how far along it.
func (l look) place(g api.Vec) api.Vec {
	f := numbers(vec.Sub(g, l.from))
	z := l.dir[l.z]
	return api.Vec{
		X: f[l.x] - float64(l.dir[l.x]/z*f[l.z]),
		Y: f[l.y] - float64(l.dir[l.y]/z*f[l.z]),
		Z: float64(1 / z * f[l.z]),
	}
}

// edge is Edge, of places. The other way about it is the same with its sign turned, to the bit, so that nothing slips through between two triangles.
func edge(p, q api.Vec) float64 {
	return float64(p.X*q.Y) - float64(p.Y*q.X)
}

// edges are those of a triangle, each ahead of the corner that it hasn't.
type edges struct {
	u, v, w float64
}

func edgesOf(a, b, c api.Vec) edges {
	return edges{u: edge(b, c), v: edge(c, a), w: edge(a, b)}
}

func (e edges) sum() float64 {
	return e.u + e.v + e.w
}

// through says whether a ray goes by all edges on the same side, or on them.
func (e edges) through() bool {
	below := e.u < 0 || e.v < 0 || e.w < 0
	above := e.u > 0 || e.v > 0 || e.w > 0
	return !(below && above) && e.sum() != 0
}

// triangle has the corners A, B, C. It asks for nothing but numbers within reach.
type triangle api.Shape

func (t triangle) bounds() api.Box {
	return slab.Join(boxAround(t.A, t.B), api.Box{Lo: t.C, Hi: t.C})
}

// boxAround is the least box around two points; of numbers that are the same p's.
func boxAround(p, q api.Vec) api.Box {
	return slab.Join(api.Box{Lo: p, Hi: p}, api.Box{Lo: q, Hi: q})
}

func (t triangle) strike(r api.Ray, _, _ float64) (float64, bool) {
	l := lookAlong(r)
	a, b, c := l.place(t.A), l.place(t.B), l.place(t.C)
	e := edgesOf(a, b, c)
	if !e.through() {
		return 0, false
	}
	return (float64(e.u*a.Z) + float64(e.v*b.Z) + float64(e.w*c.Z)) / e.sum(), true
}

func (t triangle) normal(_ api.Vec) api.Vec {
	return vec.Cross(vec.Sub(t.B, t.A), vec.Sub(t.C, t.A))
}
