// Package vec: points and directions, bit by bit: see the document's chapter.
//
// Every product stands in float64( ), so that none is fused into the sum around it, not even where a call is drawn into its caller.
package vec

import (
	"math"

	"rayhouse/api"
)

// Near says whether a number is one, and not too great.
func Near(x float64) bool {
	return x >= -api.MaxReach && x <= api.MaxReach
}

// Fine says whether all three are.
func Fine(v api.Vec) bool {
	return Near(v.X) && Near(v.Y) && Near(v.Z)
}

// Add is the sum.
func Add(a, b api.Vec) api.Vec {
	return api.Vec{X: a.X + b.X, Y: a.Y + b.Y, Z: a.Z + b.Z}
}

// Sub is the difference.
func Sub(a, b api.Vec) api.Vec {
	return api.Vec{X: a.X - b.X, Y: a.Y - b.Y, Z: a.Z - b.Z}
}

// Scale is k times v.
func Scale(v api.Vec, k float64) api.Vec {
	return api.Vec{X: float64(v.X * k), Y: float64(v.Y * k), Z: float64(v.Z * k)}
}

// Over is v through k.
func Over(v api.Vec, k float64) api.Vec {
	return api.Vec{X: v.X / k, Y: v.Y / k, Z: v.Z / k}
}

// Dot is the sum of the products. (Each product is rounded: nothing is fused.)
func Dot(a, b api.Vec) float64 {
	return float64(a.X*b.X) + float64(a.Y*b.Y) + float64(a.Z*b.Z)
}

// Cross is square to both.
func Cross(a, b api.Vec) api.Vec {
	return api.Vec{
		X: float64(a.Y*b.Z) - float64(a.Z*b.Y),
		Y: float64(a.Z*b.X) - float64(a.X*b.Z),
		Z: float64(a.X*b.Y) - float64(a.Y*b.X),
	}
}

// Length is how long it is.
func Length(v api.Vec) float64 {
	return math.Sqrt(Dot(v, v))
}

// Unit is v with the length 1.
func Unit(v api.Vec) (api.Vec, api.Errno) {
	if !Fine(v) {
		return api.Vec{}, api.ErrReach
	}
	length := Length(v)
	// A v that isn't 0 can be so short that its length is.
	if length == 0 {
		return api.Vec{}, api.ErrZero
	}
	return Over(v, length), api.OK
}

// Clean is v, where what is nearly nought is nought.
func Clean(v api.Vec) api.Vec {
	return api.Vec{X: cleanNumber(v.X), Y: cleanNumber(v.Y), Z: cleanNumber(v.Z)}
}

func cleanNumber(x float64) float64 {
	if x > -1/api.MaxReach && x < 1/api.MaxReach {
		return 0
	}
	return x
}

// Mirror is d, thrown back at what n stands on.
func Mirror(d, n api.Vec) api.Vec {
	return Sub(d, Scale(n, float64(2*Dot(d, n))))
}

// Bend is d, bent where it goes through what n stands on; false: it can't go through.
func Bend(d, n api.Vec, eta float64) (api.Vec, bool) {
	// Not 0 - Dot: of a nought, too, the sign is turned.
	c := -Dot(d, n)
	k := 1 - float64(float64(eta*eta)*(1-float64(c*c)))
	// Not k < 0: a k that is no number is refused as well.
	if !(k >= 0) {
		return api.Vec{}, false
	}
	return Add(Scale(d, eta), Scale(n, float64(eta*c)-math.Sqrt(k))), true
}
