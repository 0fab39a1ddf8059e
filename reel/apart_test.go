package reel_test

import (
	"bytes"
	"math"
	"slices"
	"testing"

	"rayhouse/api"
	"rayhouse/reel"
	"rayhouse/skin"
)

// drawn: a picture of drawn bytes.
func (d *die) drawn(w, h int) api.Picture {
	p := api.Picture{W: w, H: h}
	for range 4 * w * h {
		p.Pix = append(p.Pix, byte(d.n(256)))
	}
	return p
}

// filled: a picture of like bytes.
func filled(w, h int, b byte) api.Picture {
	return api.Picture{W: w, H: h, Pix: bytes.Repeat([]byte{b}, 4*w*h)}
}

// changed: a picture with other bytes at some places.
func changed(p api.Picture, by byte, places ...int) api.Picture {
	p.Pix = slices.Clone(p.Pix)
	for _, at := range places {
		p.Pix[at] += by
	}
	return p
}

// secondApart: how often each distance comes up; then what follows from that.
func secondApart(a, b api.Picture) (d api.Differ) {
	var often [256]int
	for i, x := range a.Pix {
		y := b.Pix[i]
		often[max(x, y)-min(x, y)]++
	}
	for far, n := range often {
		if n > 0 {
			d.Most = far
		}
		d.Squares += n * far * far
	}
	for i := range a.W * a.H {
		if [4]byte(a.Pix[4*i:]) != [4]byte(b.Pix[4*i:]) {
			d.Unlike++
		}
	}
	return d
}

func holdApart(t *testing.T, a, b api.Picture) {
	t.Helper()
	want := secondApart(a, b)
	if d, e := reel.Apart(a, b); e != api.OK || d != want {
		t.Fatalf("Apart of %v and %v: %v, %d, not %v", a, b, d, e, want)
	}
	if d, e := reel.Apart(b, a); e != api.OK || d != want {
		t.Fatalf("Apart of %v and %v: %v, %d, not %v", b, a, d, e, want)
	}
}

var sides = [][2]int{{1, 1}, {1, 2}, {2, 1}, {3, 5}, {5, 3}, {16, 16}, {1, api.MaxSide}, {api.MaxSide, 1}, {api.MaxSide, api.MaxSide}}

// K3

func TestApartOfKnownPictures(t *testing.T) {
	p := api.Picture{W: 2, H: 1, Pix: []byte{1, 2, 3, 4, 5, 6, 7, 8}}
	for _, c := range []struct {
		pix  []byte
		want api.Differ
	}{
		{[]byte{1, 2, 3, 4, 5, 6, 7, 8}, api.Differ{}},
		{[]byte{2, 2, 3, 4, 5, 6, 7, 8}, api.Differ{Unlike: 1, Most: 1, Squares: 1}},
		{[]byte{1, 2, 3, 4, 5, 6, 7, 0}, api.Differ{Unlike: 1, Most: 8, Squares: 64}},
		{[]byte{4, 0, 3, 4, 5, 6, 7, 8}, api.Differ{Unlike: 1, Most: 3, Squares: 13}},
		{[]byte{1, 2, 3, 14, 255, 6, 7, 8}, api.Differ{Unlike: 2, Most: 250, Squares: 62600}},
		{[]byte{5, 6, 7, 8, 1, 2, 3, 4}, api.Differ{Unlike: 2, Most: 4, Squares: 128}},
	} {
		q := api.Picture{W: 2, H: 1, Pix: c.pix}
		if d, e := reel.Apart(p, q); e != api.OK || d != c.want {
			t.Errorf("Apart of %v and %v: %v, %d, not %v", p, q, d, e, c.want)
		}
		holdApart(t, p, q)
	}
}

func TestApartInNoPixel(t *testing.T) {
	d := die(13)
	for _, s := range sides {
		p := d.drawn(s[0], s[1])
		for _, q := range []api.Picture{p, changed(p, 0)} {
			if x, e := reel.Apart(p, q); e != api.OK || x != (api.Differ{}) {
				t.Errorf("%d by %d, like each other: %v, %d", p.W, p.H, x, e)
			}
		}
	}
}

// One byte alone: each of the four, the first pixel and the last one.
func TestApartInOnePixel(t *testing.T) {
	d := die(17)
	for _, s := range sides {
		p := d.drawn(s[0], s[1])
		last := len(p.Pix) - 4
		for i := range 4 {
			for _, first := range []int{0, last, 4 * d.n(s[0]*s[1])} {
				q := changed(p, byte(1+d.n(255)), first+i)
				far := int(p.Pix[first+i]) - int(q.Pix[first+i])
				want := api.Differ{Unlike: 1, Most: max(far, -far), Squares: far * far}
				if x, e := reel.Apart(p, q); e != api.OK || x != want {
					t.Errorf("apart by %d at %d: %v, %d", far, first+i, x, e)
				}
				holdApart(t, p, q)
			}
			// Two bytes of one pixel: it is one pixel even so.
			holdApart(t, p, changed(p, 100, last+i, last+(i+1)%4))
		}
	}
}

func TestApartInAllPixels(t *testing.T) {
	for _, s := range sides {
		w, h := s[0], s[1]
		black, white := filled(w, h, 0), filled(w, h, 255)
		want := api.Differ{Unlike: w * h, Most: 255, Squares: 4 * w * h * 255 * 255}
		for _, two := range [][2]api.Picture{{black, white}, {white, black}} {
			if x, e := reel.Apart(two[0], two[1]); e != api.OK || x != want {
				t.Errorf("%d by %d, of 0 and of 255: %v, %d, not %v", w, h, x, e, want)
			}
		}
		for by := range 256 {
			holdApart(t, filled(w, h, byte(by)), filled(w, h, 100))
		}
		// In each pixel one byte alone.
		var places []int
		for i := range w * h {
			places = append(places, 4*i+i%4)
		}
		x, e := reel.Apart(black, changed(black, 3, places...))
		if want := (api.Differ{Unlike: w * h, Most: 3, Squares: 9 * w * h}); e != api.OK || x != want {
			t.Errorf("%d by %d, with one byte of each pixel 3 apart: %v, %d, not %v", w, h, x, e, want)
		}
	}
}

func TestApartOfDrawnPictures(t *testing.T) {
	d := die(19)
	for range 600 {
		p := d.drawn(1+d.n(9), 1+d.n(9))
		holdApart(t, p, d.drawn(p.W, p.H))
		q := p
		for range d.n(8) {
			q = changed(q, byte(d.n(256)), d.n(len(q.Pix)))
		}
		holdApart(t, p, q)
	}
}

func TestSidesThatAreNotTheSame(t *testing.T) {
	d := die(23)
	for _, c := range [][4]int{{2, 3, 3, 2}, {1, 4, 2, 2}, {4, 1, 1, 4}, {1, 1, 1, 2}, {1, 1, 2, 1}, {5, 5, 5, 4}, {5, 5, 4, 5}, {64, 1, 1, 64}, {64, 64, 64, 63}} {
		a, b := filled(c[0], c[1], 9), filled(c[2], c[3], 200)
		for _, two := range [][2]api.Picture{{a, b}, {b, a}, {d.drawn(a.W, a.H), d.drawn(b.W, b.H)}} {
			if x, e := reel.Apart(two[0], two[1]); e != api.ErrCount || x != (api.Differ{}) {
				t.Errorf("%v: %v, %d", c, x, e)
			}
		}
	}
}

// noughts: a picture of these sides with so many bytes.
func noughts(w, h, n int) api.Picture {
	return api.Picture{W: w, H: h, Pix: make([]byte, n)}
}

// What is said of the first one is told ahead of what is said of the second one, that ahead of their sides.
func TestApartRefuses(t *testing.T) {
	const side = api.MaxSide
	limit := []api.Picture{{}, noughts(0, 1, 0), noughts(1, 0, 0), noughts(-1, -1, 4), noughts(side+1, 1, 4*side+4), noughts(1, side+1, 4*side+4), noughts(math.MaxInt, 1, 4), noughts(1<<32, 1<<32, 0), noughts(1, math.MinInt, 0)}
	count := []api.Picture{noughts(1, 1, 0), noughts(1, 1, 3), noughts(1, 1, 5), noughts(2, 3, 23), noughts(2, 3, 28), noughts(side, side, 4)}
	good := noughts(2, 3, 24)
	refused := func(a, b api.Picture, want api.Errno) {
		t.Helper()
		if x, e := reel.Apart(a, b); e != want || x != (api.Differ{}) {
			t.Errorf("%d by %d, %d bytes, and %d by %d, %d bytes: %v, %d, not %d", a.W, a.H, len(a.Pix), b.W, b.H, len(b.Pix), x, e, want)
		}
	}
	for i, all := range [][]api.Picture{limit, count} {
		want := []api.Errno{api.ErrLimit, api.ErrCount}[i]
		for _, p := range all {
			if skin.May(p) != want {
				t.Fatalf("%v: the test tells nothing", p)
			}
			refused(p, good, want)
			refused(good, p, want)
			refused(p, p, want)
			for _, q := range append(limit, count...) {
				refused(p, q, want)
			}
		}
	}
}

func TestPicturesAreNotWrittenInto(t *testing.T) {
	d := die(29)
	row := d.drawn(8, 4).Pix
	kept := slices.Clone(row)
	// Both stand in one row, with bytes in common.
	a, b := api.Picture{W: 4, H: 3, Pix: row[:48]}, api.Picture{W: 4, H: 3, Pix: row[20:68]}
	holdApart(t, a, b)
	if !bytes.Equal(row, kept) {
		t.Error("the pictures were written into")
	}
	first, _ := reel.Apart(a, b)
	row[30] += 128
	later, _ := reel.Apart(a, b)
	if later != secondApart(a, b) || later == first {
		t.Errorf("%v; with another byte: %v", first, later)
	}
}
