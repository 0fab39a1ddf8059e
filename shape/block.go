package shape

import (
	"math"

	"rayhouse/api"
)

// block is between A and B.
type block api.Shape

func (b block) may() api.Errno {
	if b.A.X > b.B.X || b.A.Y > b.B.Y || b.A.Z > b.B.Z {
		return api.ErrValue
	}
	return api.OK
}

func (b block) bounds() api.Box {
	return api.Box{Lo: b.A, Hi: b.B}
}

func (b block) strike(r api.Ray, near, far float64) (float64, bool) {
	if near > r.Least {
		return near, true
	}
	return far, true
}

func (b block) inside(_ api.Ray, near, far float64) (in, out float64, ok bool) {
	return near, far, true
}

func (b block) normal(p api.Vec) api.Vec {
	lo, hi, at := numbers(b.A), numbers(b.B), numbers(p)
	axis, sign := 0, -1.0
	least := math.Inf(1)
	for i, x := range at {
		if far := math.Abs(x - lo[i]); far < least {
			least, axis, sign = far, i, -1
		}
		if far := math.Abs(hi[i] - x); far < least {
			least, axis, sign = far, i, 1
		}
	}
	var side [3]float64
	side[axis] = sign
	return vecOf(side)
}
