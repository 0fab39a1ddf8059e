package reel

import (
	"rayhouse/api"
	"rayhouse/skin"
)

const pixelBytes = 4

// Apart is how two pictures differ.
func Apart(a, b api.Picture) (api.Differ, api.Errno) {
	if e := skin.May(a); e != api.OK {
		return api.Differ{}, e
	}
	if e := skin.May(b); e != api.OK {
		return api.Differ{}, e
	}
	if a.W != b.W || a.H != b.H {
		return api.Differ{}, api.ErrCount
	}
	var all api.Differ
	for at := 0; at < len(a.Pix); at += pixelBytes {
		one := pixelsApart(a.Pix[at:at+pixelBytes], b.Pix[at:at+pixelBytes])
		all.Unlike += one.Unlike
		all.Most = max(all.Most, one.Most)
		all.Squares += one.Squares
	}
	return all, api.OK
}

// pixelsApart is how two pixels differ, the cover like the colours.
func pixelsApart(p, q []byte) (d api.Differ) {
	for i := range p {
		far := int(p[i]) - int(q[i])
		d.Most = max(d.Most, far, -far)
		d.Squares += far * far
	}
	if d.Most > 0 {
		d.Unlike = 1
	}
	return d
}
