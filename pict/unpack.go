package pict

import (
	"bytes"

	"rayhouse/api"
)

// Unpack is the picture of bytes.
func Unpack(b []byte) (api.Picture, api.Errno) {
	p, e := sidesOf(b)
	if e != api.OK {
		return api.Picture{}, e
	}
	pix, rest, e := pixelsOf(b[headBytes:], pixelBytes*p.W*p.H)
	if e != api.OK {
		return api.Picture{}, e
	}
	if e := checked(b, rest); e != api.OK {
		return api.Picture{}, e
	}
	p.Pix = pix
	// Other pieces may give the same pixels: only those that Pack makes are taken.
	if !bytes.Equal(packed(p), b) {
		return api.Picture{}, api.ErrForm
	}
	return p, api.OK
}

// sidesOf is a picture of no pixels yet, with the sides that the head of b tells.
func sidesOf(b []byte) (api.Picture, api.Errno) {
	if len(b) < headBytes {
		return api.Picture{}, api.ErrShort
	}
	if !bytes.HasPrefix(b, []byte(mark)) {
		return api.Picture{}, api.ErrForm
	}
	w, h := int(b[len(mark)]), int(b[len(mark)+1])
	if !isSide(w) || !isSide(h) {
		return api.Picture{}, api.ErrLimit
	}
	return api.Picture{W: w, H: h}, api.OK
}

func isSide(n int) bool {
	return n >= 1 && n <= api.MaxSide
}

// pixelsOf reads pieces until there are so many bytes of pixels, and gives what is behind them.
func pixelsOf(b []byte, size int) (pix, rest []byte, e api.Errno) {
	pix = make([]byte, 0, size)
pieces:
	for len(pix) < size {
		first, times, whole := pieceOf(b)
		switch {
		case !whole:
			e = api.ErrShort
			break pieces
		case len(pix)+len(first)*times > size:
			e = api.ErrCount
			break pieces
		}
		for range times {
			pix = append(pix, first...)
		}
		b = b[1+len(first):]
	}
	if e != api.OK {
		return nil, nil, e
	}
	return pix, b, api.OK
}

// pieceOf is the first piece of b: bytes of pixels, and how many times they stand there; whole, if all its bytes are there.
func pieceOf(b []byte) (pixels []byte, times int, whole bool) {
	if len(b) == 0 {
		return nil, 0, false
	}
	count, times := int(b[0])+1, 1
	if b[0] > runBase {
		count, times = 1, int(b[0])-runBase
	}
	if len(b) <= pixelBytes*count {
		return nil, 0, false
	}
	return b[1 : 1+pixelBytes*count], times, true
}

// checked says whether the rest of b is its check, and nothing else.
func checked(b, rest []byte) api.Errno {
	if len(rest) < checkBytes {
		return api.ErrShort
	}
	if len(rest) > checkBytes {
		return api.ErrCount
	}
	s, t := check(b[:len(b)-checkBytes])
	if rest[0] != s || rest[1] != t {
		return api.ErrCheck
	}
	return api.OK
}
