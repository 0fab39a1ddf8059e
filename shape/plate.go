package shape

import (
	"rayhouse/api"
	"rayhouse/vec"
)

// plate is around A, R from it, square to B.
type plate api.Shape

func (p plate) may() api.Errno {
	if !(p.R > 0) {
		return api.ErrValue
	}
	_, e := vec.Unit(p.B)
	return e
}

func (p plate) bounds() api.Box {
	return cubeAround(p.A, p.R)
}

func (p plate) strike(r api.Ray, _, _ float64) (float64, bool) {
	n, _ := vec.Unit(p.B)
	d := vec.Dot(n, r.Dir)
	if d == 0 {
		return 0, false
	}
	t := vec.Dot(n, vec.Sub(p.A, r.From)) / d
	q := vec.Sub(vec.Add(r.From, vec.Scale(r.Dir, t)), p.A)
	return t, vec.Dot(q, q) <= float64(p.R*p.R)
}

func (p plate) normal(_ api.Vec) api.Vec {
	return p.B
}
