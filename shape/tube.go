package shape

import (
	"math"

	"rayhouse/api"
	"rayhouse/vec"
)

// tube goes from A along B, R about it.
type tube api.Shape

func (t tube) may() api.Errno {
	if _, ok := axisOf(t.B); !ok || !(t.R > 0) {
		return api.ErrValue
	}
	return api.OK
}

// axis is the one that the tube goes along: may has told that there is one.
func (t tube) axis() int {
	axis, _ := axisOf(t.B)
	return axis
}

func (t tube) bounds() api.Box {
	ends := boxAround(t.A, vec.Add(t.A, t.B))
	around := flat(api.Vec{X: t.R, Y: t.R, Z: t.R}, t.axis())
	return api.Box{Lo: vec.Sub(ends.Lo, around), Hi: vec.Add(ends.Hi, around)}
}

func (t tube) strike(r api.Ray, near, far float64) (float64, bool) {
	in, out, ok := t.inside(r, near, far)
	if !ok {
		return 0, false
	}
	if in > r.Least {
		return in, true
	}
	return out, true
}

func (t tube) inside(r api.Ray, near, far float64) (in, out float64, ok bool) {
	axis := t.axis()
	o, d := flat(vec.Sub(r.From, t.A), axis), flat(r.Dir, axis)
	if d == (api.Vec{}) {
		return alongside(o, t.R, near, far)
	}
	in, out, ok = about(o, d, t.R)
	if !ok {
		return 0, 0, false
	}
	if !(in > near) {
		in = near
	}
	if !(out < far) {
		out = far
	}
	if in > out {
		return 0, 0, false
	}
	return in, out, true
}

// alongside is from near to far, for what goes along the axis, o from it, if that is no farther than so much.
func alongside(o api.Vec, reach, near, far float64) (in, out float64, ok bool) {
	if vec.Dot(o, o) <= float64(reach*reach) {
		return near, far, true
	}
	return 0, 0, false
}

func (t tube) normal(p api.Vec) api.Vec {
	axis := t.axis()
	v := vec.Sub(p, t.A)
	q := flat(v, axis)
	along, end := numbers(v)[axis], numbers(t.B)[axis]
	g, least := q, math.Abs(vec.Length(q)-t.R)
	if far := math.Abs(along); far < least {
		g, least = vec.Scale(t.B, -1), far
	}
	if far := math.Abs(along - end); far < least {
		g = t.B
	}
	return g
}
