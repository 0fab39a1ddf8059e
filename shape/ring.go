package shape

import (
	"math"

	"rayhouse/api"
	"rayhouse/roots"
	"rayhouse/vec"
)

const (
	// grain is how many parts of one a ring's numbers are told in: within reach all of them are small enough for roots.Ring.
	grain = 1024
	// farthest is how far a ring is looked for, in parts of Fine.
	farthest = 1 << 46
)

// ring is around A, square to B, R from it, Q about that.
type ring api.Shape

func (k ring) may() api.Errno {
	if _, ok := axisOf(k.B); !ok || !(k.Q > 0 && k.R >= k.Q) {
		return api.ErrValue
	}
	return api.OK
}

// axis is the one that the ring is square to: may has told that there is one.
func (k ring) axis() int {
	axis, _ := axisOf(k.B)
	return axis
}

func (k ring) bounds() api.Box {
	wide := flat(api.Vec{X: k.R, Y: k.R, Z: k.R}, k.axis())
	around := vec.Add(wide, api.Vec{X: k.Q, Y: k.Q, Z: k.Q})
	return api.Box{Lo: vec.Sub(k.A, around), Hi: vec.Add(k.A, around)}
}

func (k ring) strike(r api.Ray, _, _ float64) (float64, bool) {
	o, d := wholes(vec.Sub(r.From, k.A)), wholes(r.Dir)
	if d == [3]int{} {
		return 0, false
	}
	least := int(math.Ceil(float64(r.Least * api.Fine)))
	places, e := roots.Ring(o, d, k.axis(), whole(k.R), whole(k.Q), least, farthest)
	if e != api.OK || len(places) == 0 {
		return 0, false
	}
	return float64(places[0]) / api.Fine, true
}

// whole is a number in parts of grain, the nearest: cut off downward, once it has a half more.
func whole(x float64) int {
	return int(math.Floor(float64(x*grain) + 0.5))
}

func wholes(v api.Vec) [3]int {
	return [3]int{whole(v.X), whole(v.Y), whole(v.Z)}
}

func (k ring) normal(p api.Vec) api.Vec {
	v := vec.Sub(p, k.A)
	q := flat(v, k.axis())
	length := vec.Length(q)
	if !(length > 0) {
		return api.Vec{}
	}
	return vec.Sub(v, vec.Scale(q, k.R/length))
}
