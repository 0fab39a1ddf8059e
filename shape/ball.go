package shape

import (
	"math"

	"rayhouse/api"
	"rayhouse/vec"
)

// ball is around A, R from it.
type ball api.Shape

func (b ball) may() api.Errno {
	if !(b.R > 0) {
		return api.ErrValue
	}
	return api.OK
}

func (b ball) bounds() api.Box {
	return cubeAround(b.A, b.R)
}

// cubeAround is the box whose sides are so far from its middle.
func cubeAround(middle api.Vec, far float64) api.Box {
	corner := api.Vec{X: far, Y: far, Z: far}
	return api.Box{Lo: vec.Sub(middle, corner), Hi: vec.Add(middle, corner)}
}

func (b ball) strike(r api.Ray, near, far float64) (float64, bool) {
	in, out, ok := b.inside(r, near, far)
	if !ok {
		return 0, false
	}
	if in >= r.Least {
		return in, true
	}
	return out, true
}

func (b ball) inside(r api.Ray, _, _ float64) (in, out float64, ok bool) {
	return about(vec.Sub(r.From, b.A), r.Dir, b.R)
}

// about is from where to where what goes from o along d is no farther than so much from 0.
func about(o, d api.Vec, reach float64) (in, out float64, ok bool) {
	a := vec.Dot(d, d)
	h := vec.Dot(o, d)
	c := vec.Dot(o, o) - float64(reach*reach)
	e := float64(h*h) - float64(a*c)
	if !(e >= 0) {
		return 0, 0, false
	}
	q := math.Sqrt(e)
	return (-h - q) / a, (-h + q) / a, true
}

func (b ball) normal(p api.Vec) api.Vec {
	return vec.Sub(p, b.A)
}
