package bounce

import (
	"rayhouse/api"
	"rayhouse/scene"
	"rayhouse/slab"
	"rayhouse/vec"
)

// Ray is that of an eye through a place of its picture, in 65536 parts of its width and its height; the picture's height is so many of its width.
func Ray(e api.Eye, u, v int, tall float64) (api.Ray, api.Errno) {
	if no := mayLook(e, u, v, tall); no != api.OK {
		return api.Ray{}, no
	}
	// An eye that may be looks somewhere, and up isn't there: no length is 0.
	ahead, _ := vec.Unit(vec.Sub(e.To, e.At))
	square := vec.Cross(ahead, e.Up)
	right := vec.Over(square, vec.Length(square))
	up := vec.Cross(right, ahead)
	x := float64((float64(u)/api.Full - 0.5) * e.Wide)
	y := float64(float64((0.5-float64(v)/api.Full)*e.Wide) * tall)
	dir := vec.Add(vec.Add(ahead, vec.Scale(right, x)), vec.Scale(up, y))
	r := api.Ray{From: e.At, Dir: vec.Clean(dir)}
	return r, slab.Fine(r)
}

// mayLook says whether an eye may look through a place of a picture.
func mayLook(e api.Eye, u, v int, tall float64) api.Errno {
	if no := scene.MayEye(e); no != api.OK {
		return no
	}
	if !vec.Near(tall) || tall <= 0 {
		return api.ErrReach
	}
	if !isPart(u) || !isPart(v) {
		return api.ErrValue
	}
	return api.OK
}

// isPart says whether a number is one of so many of Full.
func isPart(n int) bool {
	return n >= 0 && n <= api.Full
}
