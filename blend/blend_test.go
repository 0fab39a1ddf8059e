package blend_test

import (
	"fmt"
	"math"
	"slices"
	"testing"

	"rayhouse/api"
	"rayhouse/blend"
	"rayhouse/skin"
)

const kinds = 13

// die: numbers that look drawn, the same each time.
type die uint64

func (d *die) n(most int) int {
	*d = *d*6364136223846793005 + 1442695040888963407
	return int(uint64(*d>>33) % uint64(most))
}

// value: a byte up to most, often one of those at which something changes.
func (d *die) value(most int) byte {
	switch d.n(4) {
	case 0:
		return byte(most)
	case 1:
		return byte(min(most, []int{0, 1, 127, 128, 254, 255}[d.n(6)]))
	}
	return byte(d.n(most + 1))
}

// drawn: a picture that may be blended.
func (d *die) drawn(w, h int) api.Picture {
	p := api.Picture{W: w, H: h}
	for range w * h {
		cover := d.value(255)
		most := int(cover)
		p.Pix = append(p.Pix, d.value(most), d.value(most), d.value(most), cover)
	}
	return p
}

func pixels(w, h int, pix ...byte) api.Picture {
	return api.Picture{W: w, H: h, Pix: pix}
}

// noughts: a picture of these sides with so many bytes.
func noughts(w, h, n int) api.Picture {
	return api.Picture{W: w, H: h, Pix: make([]byte, n)}
}

// with: a copy, in which one byte is another.
func with(p api.Picture, at int, n byte) api.Picture {
	p.Pix = slices.Clone(p.Pix)
	p.Pix[at] = n
	return p
}

func same(a, b api.Picture) bool {
	return a.W == b.W && a.H == b.H && slices.Equal(a.Pix, b.Pix)
}

func empty(p api.Picture) bool {
	return p.W == 0 && p.H == 0 && len(p.Pix) == 0
}

func blended(t *testing.T, kind int, a, b api.Picture) api.Picture {
	t.Helper()
	p, e := blend.Blend(kind, a, b)
	if e != api.OK {
		t.Fatalf("kind %d of %v and %v: %d", kind, a, b, e)
	}
	return p
}

func holdError(t *testing.T, kind int, a, b api.Picture, want api.Errno) {
	t.Helper()
	if p, e := blend.Blend(kind, a, b); e != want || !empty(p) {
		t.Errorf("kind %d of %d by %d (%d) and %d by %d (%d): %v, %d, not %d", kind, a.W, a.H, len(a.Pix), b.W, b.H, len(b.Pix), p, e, want)
	}
}

// second: D2's table once more: what is taken of a, and what of b (0 nothing, 1 all, 2 what is in, 3 what is out), in whole numbers.
func second(kind int, a, b api.Picture) api.Picture {
	taken := [kinds][2]int{{0, 0}, {1, 0}, {0, 1}, {1, 3}, {3, 1}, {2, 0}, {0, 2}, {3, 0}, {0, 3}, {2, 3}, {3, 2}, {3, 3}, {1, 1}}[kind]
	share := func(how, n, cover int) int {
		in := int(math.Floor(float64(n)*float64(cover)/255 + 0.5))
		return []int{0, n, in, n - in}[how]
	}
	p := api.Picture{W: a.W, H: a.H}
	for i := range a.Pix {
		cover := i/4*4 + 3
		sum := share(taken[0], int(a.Pix[i]), int(b.Pix[cover])) + share(taken[1], int(b.Pix[i]), int(a.Pix[cover]))
		p.Pix = append(p.Pix, byte(min(255, sum)))
	}
	return p
}

func holdKinds(t *testing.T, a, b api.Picture) {
	t.Helper()
	for kind := range kinds {
		if got, want := blended(t, kind, a, b), second(kind, a, b); !same(got, want) {
			t.Fatalf("kind %d of %v and %v: %v, not %v", kind, a, b, got, want)
		}
	}
}

// sides: of pictures that may be.
func sides() [][2]int {
	return [][2]int{{1, 1}, {1, 6}, {6, 1}, {3, 2}, {2, 3}, {5, 5}, {api.MaxSide, 1}, {1, api.MaxSide}, {api.MaxSide, api.MaxSide}}
}

// refused: pictures that may not be, whatever their colours are.
func refused() []api.Picture {
	const side = api.MaxSide
	return []api.Picture{
		{}, noughts(0, 1, 0), noughts(1, 0, 0), noughts(0, 0, 4), noughts(-1, 1, 4), noughts(-1, -1, 4), noughts(side+1, 1, 4*side+4), noughts(1, side+1, 4*side+4),
		noughts(math.MaxInt, 1, 4), noughts(1, math.MinInt, 4), noughts(1<<32, 1<<32, 0), noughts(1<<32+1, 1, 4),
		noughts(1, 1, 0), noughts(1, 1, 3), noughts(1, 1, 5), noughts(1, 1, 8), noughts(3, 2, 23), noughts(3, 2, 25), noughts(3, 2, 18), noughts(side, side, 4*side*side-1), noughts(side, side, 4*side*side+4),
		// Also a colour is above its cover: what is wrong first is told.
		pixels(1, 1, 1, 0, 0, 0, 0), pixels(1, 1, 1, 0, 0), pixels(0, 1, 1, 0, 0, 0), pixels(2, 1, 1, 0, 0, 0),
	}
}

// D1

func TestPartOfEveryTwoBytes(t *testing.T) {
	for n := range 256 {
		for of := range 256 {
			got := int(blend.Part(byte(n), byte(of)))
			// The nearest one is less than half of 255 parts away; 255 is odd, so no two are just as near.
			if off := 255*got - n*of; off > 127 || off < -127 {
				t.Errorf("Part of %d, %d: %d", n, of, got)
			}
		}
	}
	for _, c := range [][3]byte{{0, 0, 0}, {255, 255, 255}, {255, 7, 7}, {7, 255, 7}, {1, 127, 0}, {1, 128, 1}, {128, 128, 64}, {2, 63, 0}, {2, 64, 1}, {200, 100, 78}, {254, 254, 253}} {
		if got := blend.Part(c[0], c[1]); got != c[2] {
			t.Errorf("Part of %d, %d: %d, not %d", c[0], c[1], got, c[2])
		}
	}
}

func TestMay(t *testing.T) {
	d := die(1)
	for _, s := range sides() {
		p := d.drawn(s[0], s[1])
		if e := blend.May(p); e != api.OK {
			t.Errorf("May of %d by %d: %d", s[0], s[1], e)
		}
	}
	for _, p := range refused() {
		want := skin.May(p)
		if want == api.OK {
			t.Fatalf("%v may be: the test tells nothing", p)
		}
		if e := blend.May(p); e != want {
			t.Errorf("May of %d by %d with %d bytes: %d, not %d", p.W, p.H, len(p.Pix), e, want)
		}
	}
}

// Each colour, of the first pixel, of the last one and of those between, just at its cover and just above it.
func TestMayOfColours(t *testing.T) {
	for _, s := range sides() {
		for _, cover := range []byte{0, 1, 127, 128, 254, 255} {
			n := s[0] * s[1]
			p := noughts(s[0], s[1], 4*n)
			for i := range p.Pix {
				p.Pix[i] = cover
			}
			if e := blend.May(p); e != api.OK {
				t.Errorf("May of %d by %d, all bytes %d: %d", s[0], s[1], cover, e)
			}
			if cover == 255 {
				continue
			}
			for _, which := range []int{0, n / 2, n - 1} {
				for colour := range 3 {
					for _, above := range []byte{cover + 1, 255} {
						if e := blend.May(with(p, 4*which+colour, above)); e != api.ErrValue {
							t.Errorf("May of %d by %d, %d above %d at %d: %d", s[0], s[1], above, cover, which, e)
						}
					}
				}
				if e := blend.May(with(p, 4*which+3, cover+1)); e != api.OK {
					t.Errorf("May of %d by %d with more cover at %d: %d", s[0], s[1], which, e)
				}
			}
		}
	}
}

// D2

func TestBlendOfKnownPixels(t *testing.T) {
	a, b := pixels(1, 2, 100, 50, 0, 200, 255, 0, 9, 255), pixels(1, 2, 10, 60, 100, 100, 1, 2, 3, 128)
	for kind, want := range [kinds][]byte{
		{0, 0, 0, 0, 0, 0, 0, 0},
		{100, 50, 0, 200, 255, 0, 9, 255},
		{10, 60, 100, 100, 1, 2, 3, 128},
		{102, 63, 22, 222, 255, 0, 9, 255},
		{71, 90, 100, 222, 128, 2, 7, 255},
		{39, 20, 0, 78, 128, 0, 5, 128},
		{8, 47, 78, 78, 1, 2, 3, 128},
		{61, 30, 0, 122, 127, 0, 4, 127},
		{2, 13, 22, 22, 0, 0, 0, 0},
		{41, 33, 22, 100, 128, 0, 5, 128},
		{69, 77, 78, 200, 128, 2, 7, 255},
		{63, 43, 22, 144, 127, 0, 4, 127},
		{110, 110, 100, 255, 255, 2, 12, 255},
	} {
		if got := blended(t, kind, a, b); got.W != 1 || got.H != 2 || !slices.Equal(got.Pix, want) {
			t.Errorf("kind %d: %v, not %v", kind, got, want)
		}
	}
}

func TestBlendOfDrawnPictures(t *testing.T) {
	d := die(2)
	for _, s := range sides() {
		for range 20 {
			holdKinds(t, d.drawn(s[0], s[1]), d.drawn(s[0], s[1]))
		}
	}
}

// Each colour and cover over some of them, pixel by pixel.
func TestBlendOfManyPixels(t *testing.T) {
	const side = api.MaxSide
	for _, other := range [][2]byte{{0, 0}, {0, 255}, {255, 255}, {1, 1}, {0, 1}, {127, 128}, {100, 200}, {254, 254}, {0, 128}} {
		for cover := range 256 {
			a, b := api.Picture{W: 4, H: side}, api.Picture{W: 4, H: side}
			for i := range 4 * side {
				n := byte(min(i, cover))
				a.Pix = append(a.Pix, n, byte(cover)-n, n/2, byte(cover))
				b.Pix = append(b.Pix, other[0], other[0], other[0], other[1])
			}
			holdKinds(t, a, b)
			holdKinds(t, b, a)
		}
	}
}

// Sums just at 255 and just above it.
func TestSums(t *testing.T) {
	for _, c := range [][3]byte{{0, 255, 255}, {255, 0, 255}, {127, 127, 254}, {127, 128, 255}, {128, 128, 255}, {255, 1, 255}, {254, 1, 255}, {1, 255, 255}, {255, 255, 255}, {200, 100, 255}} {
		a, b := pixels(1, 1, c[0], c[0], c[0], c[0]), pixels(1, 1, c[1], c[1], c[1], c[1])
		if got := blended(t, 12, a, b); !slices.Equal(got.Pix, []byte{c[2], c[2], c[2], c[2]}) {
			t.Errorf("%d and %d: %v", c[0], c[1], got)
		}
		a, b = pixels(1, 1, c[0], 0, 0, 255), pixels(1, 1, c[1], 0, 0, 255)
		if got := blended(t, 12, a, b); !slices.Equal(got.Pix, []byte{c[2], 0, 0, 255}) {
			t.Errorf("%d and %d, covered: %v", c[0], c[1], got)
		}
	}
}

// What is in and what is out are, together, the whole.
func TestInAndOut(t *testing.T) {
	d := die(3)
	for _, s := range sides() {
		for range 10 {
			a, b := d.drawn(s[0], s[1]), d.drawn(s[0], s[1])
			for first, whole := range []api.Picture{a, b} {
				in, out := blended(t, 5+first, a, b), blended(t, 7+first, a, b)
				for i, n := range whole.Pix {
					if int(in.Pix[i])+int(out.Pix[i]) != int(n) {
						t.Fatalf("%v and %v: in %v, out %v", a, b, in, out)
					}
				}
				if got := blended(t, 12, in, out); !same(got, whole) {
					t.Fatalf("%v and %v: in and out are %v", a, b, got)
				}
			}
		}
	}
}

// What is blended may be blended again, with anything.
func TestBlendedAgain(t *testing.T) {
	d := die(4)
	for range 400 {
		w, h := 1+d.n(6), 1+d.n(6)
		p := d.drawn(w, h)
		for range 12 {
			q := d.drawn(w, h)
			if d.n(2) == 0 {
				p, q = q, p
			}
			kind := d.n(kinds)
			p = blended(t, kind, p, q)
			if e := blend.May(p); e != api.OK {
				t.Fatalf("kind %d gives %v: %d", kind, p, e)
			}
		}
	}
}

// With a picture that covers nothing, with one that covers all, and with itself.
func TestBlendOfPlainPictures(t *testing.T) {
	d := die(5)
	for _, s := range sides() {
		p := d.drawn(s[0], s[1])
		none, full := noughts(s[0], s[1], len(p.Pix)), noughts(s[0], s[1], len(p.Pix))
		for i := 3; i < len(full.Pix); i += 4 {
			full.Pix[i] = 255
		}
		for _, c := range []struct {
			kind int
			with api.Picture
			want api.Picture
		}{
			{3, none, p}, {4, none, p}, {5, none, none}, {6, none, none}, {7, none, p}, {8, none, none}, {9, none, none}, {10, none, p}, {11, none, p}, {12, none, p},
			{5, full, p}, {7, full, none}, {4, full, full}, {1, full, p}, {2, full, full}, {0, full, none},
		} {
			if got := blended(t, c.kind, p, c.with); !same(got, c.want) {
				t.Errorf("kind %d of %d by %d: %v", c.kind, s[0], s[1], got)
			}
		}
		holdKinds(t, p, p)
	}
}

func TestBlendRefuses(t *testing.T) {
	d := die(6)
	good := d.drawn(3, 2)
	high := with(with(good, 23, 8), 22, 9)
	some := []int{-1, 0, 5, 12, 13, math.MinInt, math.MaxInt}
	for _, kind := range some {
		for _, bad := range refused() {
			want := skin.May(bad)
			holdError(t, kind, bad, good, want)
			holdError(t, kind, good, bad, want)
			holdError(t, kind, bad, noughts(0, 0, 0), want)
			// What is wrong with a is told ahead of what is wrong with b.
			holdError(t, kind, high, bad, api.ErrValue)
			holdError(t, kind, bad, high, want)
		}
		holdError(t, kind, high, good, api.ErrValue)
		holdError(t, kind, good, high, api.ErrValue)
		holdError(t, kind, d.drawn(2, 3), high, api.ErrValue)
		for _, s := range [][2]int{{2, 3}, {3, 1}, {3, 3}, {2, 2}, {1, 6}, {6, 1}, {4, 2}, {api.MaxSide, api.MaxSide}} {
			holdError(t, kind, d.drawn(s[0], s[1]), good, api.ErrCount)
			holdError(t, kind, good, d.drawn(s[0], s[1]), api.ErrCount)
		}
	}
	holdError(t, 0, noughts(1, 1, 3), noughts(0, 1, 0), api.ErrCount)
	holdError(t, 0, noughts(0, 1, 0), noughts(1, 1, 3), api.ErrLimit)
}

func TestKinds(t *testing.T) {
	d := die(7)
	a, b := d.drawn(2, 2), d.drawn(2, 2)
	for _, kind := range []int{-1, -2, -12, 13, 14, 256, 1 << 32, 1<<32 + 5, math.MinInt, math.MaxInt} {
		holdError(t, kind, a, b, api.ErrKind)
	}
	for kind := range kinds {
		blended(t, kind, a, b)
	}
}

// X2

// wipe: writes over all that a list has room for.
func wipe(pix []byte) {
	pix = pix[:cap(pix)]
	for i := range pix {
		pix[i] ^= 255
	}
}

func TestBlendIsFresh(t *testing.T) {
	d := die(8)
	for kind := range kinds {
		a, b := d.drawn(4, 3), d.drawn(4, 3)
		before := fmt.Sprint(a, b)
		got, other := blended(t, kind, a, b), blended(t, kind, a, b)
		kept := slices.Clone(got.Pix)
		blend.May(a)
		wipe(other.Pix)
		if fmt.Sprint(a, b) != before {
			t.Errorf("kind %d: a picture that was handed in changed", kind)
		}
		wipe(a.Pix)
		wipe(b.Pix)
		if !slices.Equal(got.Pix, kept) {
			t.Errorf("kind %d: the answer changed with something else", kind)
		}
	}
}
