package shape

import "rayhouse/api"

// numbers are those of a vector, to be counted by an axis: 0, 1, 2.
func numbers(v api.Vec) [3]float64 {
	return [3]float64{v.X, v.Y, v.Z}
}

// vecOf is the vector of three numbers.
func vecOf(n [3]float64) api.Vec {
	return api.Vec{X: n[0], Y: n[1], Z: n[2]}
}

// flat is v with 0 at the axis.
func flat(v api.Vec, axis int) api.Vec {
	n := numbers(v)
	n[axis] = 0
	return vecOf(n)
}

// axisOf is the one axis that v goes along; false: it goes along none, or not along one alone.
func axisOf(v api.Vec) (axis int, ok bool) {
	count := 0
	for i, x := range numbers(v) {
		if x != 0 {
			axis = i
			count++
		}
	}
	return axis, count == 1
}
