package blend

import "rayhouse/api"

// pixel: red, green, blue, cover.
type pixel [pixelBytes]byte

// blender makes one pixel of two.
type blender func(a, b pixel) pixel

// blenders are those of all kinds, in their order.
func blenders() []blender {
	return []blender{
		pixel.nothing,
		pixel.alone, turned(pixel.alone),
		pixel.over, turned(pixel.over),
		pixel.in, turned(pixel.in),
		pixel.out, turned(pixel.out),
		pixel.atop, turned(pixel.atop),
		pixel.apart,
		pixel.and,
	}
}

// turned is a blender whose two pixels are exchanged.
func turned(blend blender) blender {
	return func(a, b pixel) pixel {
		return blend(b, a)
	}
}

// pixelAt is the pixel whose bytes begin there.
func pixelAt(p api.Picture, at int) (q pixel) {
	copy(q[:], p.Pix[at:])
	return q
}

// isCovered says whether no colour is above the cover.
func (p pixel) isCovered() bool {
	for _, colour := range p[:cover] {
		if colour > p[cover] {
			return false
		}
	}
	return true
}

func (p pixel) nothing(pixel) pixel {
	return pixel{}
}

func (p pixel) alone(pixel) pixel {
	return p
}

// in is what of a pixel the other one covers.
func (p pixel) in(other pixel) (q pixel) {
	for i, n := range p {
		q[i] = Part(n, other[cover])
	}
	return q
}

// out is the rest: worked out from in, so that both together are the whole, however in was rounded.
func (p pixel) out(other pixel) (q pixel) {
	in := p.in(other)
	for i, n := range p {
		q[i] = n - in[i]
	}
	return q
}

// and is both together, as far as bytes reach.
func (p pixel) and(other pixel) (q pixel) {
	for i, n := range p {
		q[i] = byte(min(whole, int(n)+int(other[i])))
	}
	return q
}

// over is a pixel, and the other one where this one does not cover it.
func (p pixel) over(other pixel) pixel {
	return p.and(other.out(p))
}

// atop is a pixel where the other one is, and the other one where this one does not cover it.
func (p pixel) atop(other pixel) pixel {
	return p.in(other).and(other.out(p))
}

// apart is each pixel where the other one is not.
func (p pixel) apart(other pixel) pixel {
	return p.out(other).and(other.out(p))
}
