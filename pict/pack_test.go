package pict_test

import (
	"bytes"
	"math"
	"slices"
	"strconv"
	"testing"

	"rayhouse/api"
	"rayhouse/pict"
	"rayhouse/skin"
)

// die: numbers that look drawn, the same each time.
type die uint64

func (d *die) n(most int) int {
	*d = *d*6364136223846793005 + 1442695040888963407
	return int(uint64(*d>>33) % uint64(most))
}

func (d *die) pixel() (f four) {
	for i := range f {
		f[i] = byte(d.n(256))
	}
	return f
}

// other: a pixel in which one byte alone is another one.
func (d *die) other(f four) four {
	f[d.n(4)] ^= byte(1 + d.n(255))
	return f
}

// drawn: a picture of drawn bytes.
func (d *die) drawn(w, h int) api.Picture {
	p := api.Picture{W: w, H: h}
	for range w * h {
		f := d.pixel()
		p.Pix = append(p.Pix, f[:]...)
	}
	return p
}

// streaked: a picture of drawn runs, and of single pixels in between.
func (d *die) streaked(w, h, longest int) api.Picture {
	p := api.Picture{W: w, H: h}
	f := d.pixel()
	for len(p.Pix) < 4*w*h {
		times := 1
		if d.n(3) == 0 {
			times += d.n(longest)
		}
		f = d.other(f)
		p.Pix = append(p.Pix, bytes.Repeat(f[:], times)...)
	}
	p.Pix = p.Pix[:4*w*h]
	return p
}

// filled: a picture of all pixels alike.
func filled(w, h int, f four) api.Picture {
	return api.Picture{W: w, H: h, Pix: bytes.Repeat(f[:], w*h)}
}

// unlike: one of no two alike.
func unlike(w, h int) api.Picture {
	p := api.Picture{W: w, H: h}
	for i := range w * h {
		p.Pix = append(p.Pix, 7, byte(i>>8), 200, byte(i))
	}
	return p
}

// noughts: a picture of these sides with so many bytes.
func noughts(w, h, n int) api.Picture {
	return api.Picture{W: w, H: h, Pix: make([]byte, n)}
}

func same(a, b api.Picture) bool {
	return a.W == b.W && a.H == b.H && slices.Equal(a.Pix, b.Pix)
}

func empty(p api.Picture) bool {
	return p.W == 0 && p.H == 0 && len(p.Pix) == 0
}

func packed(t *testing.T, p api.Picture) []byte {
	t.Helper()
	b, e := pict.Pack(p)
	if e != api.OK {
		t.Fatalf("Pack of %d by %d: %d", p.W, p.H, e)
	}
	return b
}

// holdPack: the bytes of a picture, against the second working, and back.
func holdPack(t *testing.T, p api.Picture) {
	t.Helper()
	b := packed(t, p)
	if want := secondPack(p); !bytes.Equal(b, want) {
		t.Fatalf("Pack of %v: % x, not % x", p, b, want)
	}
	if q, e := pict.Unpack(b); e != api.OK || !same(p, q) {
		t.Fatalf("Unpack of Pack of %v: %v, %d", p, q, e)
	}
}

// sides: of pictures that may be.
func sides() [][2]int {
	return [][2]int{{1, 1}, {1, 2}, {2, 1}, {1, 7}, {7, 1}, {3, 2}, {2, 3}, {5, 5}, {16, 8}, {43, 3}, {api.MaxSide, 1}, {1, api.MaxSide}, {api.MaxSide - 1, 2}, {api.MaxSide, api.MaxSide}}
}

// refused: pictures that may not be.
func refused() []api.Picture {
	const side = api.MaxSide
	return []api.Picture{
		{}, noughts(0, 1, 0), noughts(1, 0, 0), noughts(0, 0, 4), noughts(0, 1, 4), noughts(-1, 1, 4), noughts(-1, -1, 4), noughts(side+1, 1, 4*side+4), noughts(1, side+1, 4*side+4), noughts(side+1, side+1, 0),
		noughts(math.MaxInt, 1, 4), noughts(1, math.MinInt, 4), noughts(1<<32, 1<<32, 0), noughts(1<<32+1, 1, 4), noughts(257, 1, 4*257), noughts(257, 257, 4),
		noughts(1, 1, 0), noughts(1, 1, 3), noughts(1, 1, 5), noughts(1, 1, 8), noughts(3, 2, 23), noughts(3, 2, 25), noughts(3, 2, 18), noughts(side, side, 4*side*side-1), noughts(side, side, 4*side*side+4),
	}
}

// G1

func TestPackOfKnownPictures(t *testing.T) {
	for _, c := range []struct {
		p    api.Picture
		want []byte
	}{
		{api.Picture{W: 1, H: 1, Pix: []byte{0, 0, 0, 0}}, []byte{'R', 'H', 'P', '1', 1, 1, 0, 0, 0, 0, 0, 35, 248}},
		{api.Picture{W: 1, H: 1, Pix: []byte{9, 8, 7, 6}}, []byte{'R', 'H', 'P', '1', 1, 1, 0, 9, 8, 7, 6, 65, 77}},
		{api.Picture{W: 2, H: 1, Pix: []byte{9, 8, 7, 6, 9, 8, 7, 6}}, []byte{'R', 'H', 'P', '1', 2, 1, 129, 9, 8, 7, 6, 195, 227}},
		{api.Picture{W: 1, H: 2, Pix: []byte{9, 8, 7, 6, 9, 8, 7, 5}}, []byte{'R', 'H', 'P', '1', 1, 2, 1, 9, 8, 7, 6, 9, 8, 7, 5, 96, 184}},
		{api.Picture{W: 3, H: 1, Pix: []byte{0, 0, 0, 255, 1, 1, 1, 1, 1, 1, 1, 1}}, []byte{'R', 'H', 'P', '1', 3, 1, 0, 0, 0, 0, 255, 129, 1, 1, 1, 1, 174, 122}},
	} {
		if got := packed(t, c.p); !bytes.Equal(got, c.want) {
			t.Errorf("Pack of %v: %v, not %v", c.p, got, c.want)
		}
		holdPack(t, c.p)
	}
}

func TestPackOfAllSides(t *testing.T) {
	d := die(1)
	for _, s := range sides() {
		w, h := s[0], s[1]
		holdPack(t, filled(w, h, four{}))
		holdPack(t, filled(w, h, four{255, 255, 255, 255}))
		// A colour may be above its cover here.
		holdPack(t, filled(w, h, four{255, 1, 2, 0}))
		holdPack(t, unlike(w, h))
		for _, longest := range []int{1, 2, 3, 10, 130, 300} {
			holdPack(t, d.streaked(w, h, longest))
		}
		holdPack(t, d.drawn(w, h))
	}
	for range 1500 {
		holdPack(t, d.streaked(1+d.n(api.MaxSide), 1+d.n(8), 1+d.n(300)))
	}
}

// singles: so many pixels, no two alike; those of two kinds are never alike.
func singles(n int, kind byte) (pix []byte) {
	for i := range n {
		pix = append(pix, byte(i), byte(i>>8), 77, kind)
	}
	return pix
}

// laid: pixels in rows of 64, filled up behind with singles.
func laid(pix []byte) api.Picture {
	h := (len(pix)/4 + 63) / 64
	return api.Picture{W: 64, H: h, Pix: slices.Concat(pix, singles(64*h-len(pix)/4, 2))}
}

// ending: pixels that are a picture's last ones, in rows of 64, filled up ahead with singles.
func ending(pix []byte) api.Picture {
	h := (len(pix)/4 + 63) / 64
	return api.Picture{W: 64, H: h, Pix: slices.Concat(singles(64*h-len(pix)/4, 3), pix)}
}

// exact: a picture of just these pixels; not each number of them has sides that make it.
func exact(t *testing.T, pix []byte) api.Picture {
	t.Helper()
	n := len(pix) / 4
	for h := 1; h <= api.MaxSide; h++ {
		if n%h == 0 && n/h <= api.MaxSide {
			return api.Picture{W: n / h, H: h, Pix: pix}
		}
	}
	t.Fatalf("no sides make %d pixels", n)
	return api.Picture{}
}

// holdPieces: the pieces of a picture of just these pixels, byte by byte.
func holdPieces(t *testing.T, what string, pix []byte, pieces ...[]byte) {
	t.Helper()
	p := exact(t, pix)
	holdPack(t, p)
	want := sealed(slices.Concat([]byte{'R', 'H', 'P', '1', byte(p.W), byte(p.H)}, slices.Concat(pieces...)))
	if got := packed(t, p); !bytes.Equal(got, want) {
		t.Errorf("Pack of %s: % x, not % x", what, got, want)
	}
}

// piece: its first byte, and the bytes of pixels.
func piece(first byte, pix []byte) []byte {
	return append([]byte{first}, pix...)
}

// Runs just as long as one piece holds, and beyond.
func TestRuns(t *testing.T) {
	like, last := []byte{3, 1, 4, 1}, []byte{3, 1, 4, 2}
	for n, firsts := range map[int][]byte{
		1: {0}, 2: {129}, 3: {130}, 126: {253}, 128: {255}, 129: {255, 0}, 130: {255, 129}, 255: {255, 254}, 256: {255, 255}, 258: {255, 255, 129}, 384: {255, 255, 255}, 385: {255, 255, 255, 0},
	} {
		var pieces [][]byte
		for _, first := range firsts {
			pieces = append(pieces, piece(first, like))
		}
		holdPieces(t, strconv.Itoa(n)+" like pixels", bytes.Repeat(like, n), pieces...)
	}
	// 127 and 257 have no sides: another pixel stands behind, with which a last single one is gathered.
	holdPieces(t, "127 like pixels and one", append(bytes.Repeat(like, 127), last...), piece(254, like), piece(0, last))
	holdPieces(t, "257 like pixels and one", append(bytes.Repeat(like, 257), last...), piece(255, like), piece(255, like), piece(1, slices.Concat(like, last)))
	holdPieces(t, "one pixel, another, and 128 like the first", slices.Concat(like, last, bytes.Repeat(like, 128)), piece(1, slices.Concat(like, last)), piece(255, like))
	for _, n := range []int{1, 2, 3, 127, 128, 129, 130, 255, 256, 257, 258} {
		run := bytes.Repeat(like, n)
		for _, ahead := range []int{0, 1, 2, 126, 127, 128, 129} {
			holdPack(t, laid(slices.Concat(singles(ahead, 1), run)))
			holdPack(t, ending(slices.Concat(singles(ahead, 1), run)))
			holdPack(t, laid(slices.Concat(singles(ahead, 1), run, last, run)))
			holdPack(t, ending(slices.Concat(run, singles(ahead, 1), run, last)))
		}
	}
}

// Single pixels gathered, just as many as one piece holds, and beyond; with a run behind, and at the end.
func TestGathered(t *testing.T) {
	like := []byte{8, 8, 8, 8}
	all := singles(300, 1)
	for n, counts := range map[int][]int{1: {1}, 2: {2}, 126: {126}, 128: {128}, 129: {128, 1}, 130: {128, 2}, 255: {128, 127}, 256: {128, 128}, 258: {128, 128, 2}} {
		var pieces [][]byte
		at := 0
		for _, count := range counts {
			pieces = append(pieces, piece(byte(count-1), all[4*at:4*(at+count)]))
			at += count
		}
		holdPieces(t, strconv.Itoa(n)+" single pixels", all[:4*n], pieces...)
	}
	for _, run := range []int{2, 3, 128} {
		behind := piece(byte(127+run), like)
		for n, pieces := range map[int][][]byte{
			1:   {piece(0, all[:4]), behind},
			127: {piece(126, all[:4*127]), behind},
			128: {piece(127, all[:4*128]), behind},
			129: {piece(127, all[:4*128]), piece(0, all[4*128:4*129]), behind},
		} {
			// These two numbers of pixels have no sides.
			if pix := slices.Concat(all[:4*n], bytes.Repeat(like, run)); !slices.Contains([]int{131, 257}, len(pix)/4) {
				holdPieces(t, strconv.Itoa(n)+" single pixels and a run", pix, pieces...)
			}
		}
	}
	for _, n := range []int{1, 2, 126, 127, 128, 129, 130, 255, 256, 257} {
		holdPack(t, laid(all[:4*n]))
		holdPack(t, ending(slices.Concat(like, like, all[:4*n])))
		for _, run := range []int{2, 3, 128, 129} {
			pix := slices.Concat(all[:4*n], bytes.Repeat(like, run))
			holdPack(t, laid(pix))
			holdPack(t, ending(pix))
			holdPack(t, ending(slices.Concat(pix, all[:4])))
			holdPack(t, ending(slices.Concat(like, like, pix, all[:4*n])))
		}
	}
}

// Pixels are alike only if all four bytes are.
func TestEachByteOfAPixelCounts(t *testing.T) {
	for i := range 4 {
		for bit := range 8 {
			p := filled(5, 1, four{1, 2, 3, 4})
			p.Pix[8+i] ^= 1 << bit
			want := append([]byte{'R', 'H', 'P', '1', 5, 1, 129, 1, 2, 3, 4, 0}, p.Pix[8:12]...)
			want = append(want, 129, 1, 2, 3, 4)
			if got := packed(t, p); !bytes.Equal(got, sealed(want)) {
				t.Errorf("the byte %d with the bit %d: % x", i, bit, got)
			}
		}
	}
}

func TestPackRefuses(t *testing.T) {
	for _, p := range refused() {
		want := skin.May(p)
		if want == api.OK {
			t.Fatalf("%v may be: the test tells nothing", p)
		}
		if b, e := pict.Pack(p); e != want || len(b) != 0 {
			t.Errorf("Pack of %d by %d with %d bytes: %v, %d, not %d", p.W, p.H, len(p.Pix), b, e, want)
		}
	}
}

// X2

// wipe: writes over all that a list has room for.
func wipe(b []byte) {
	b = b[:cap(b)]
	for i := range b {
		b[i] ^= 255
	}
}

func TestPackAndUnpackAreFresh(t *testing.T) {
	d := die(2)
	for _, p := range []api.Picture{d.drawn(1, 1), d.streaked(9, 5, 4), filled(4, 4, four{1, 2, 3, 4}), unlike(16, 16)} {
		kept := slices.Clone(p.Pix)
		b, again := packed(t, p), packed(t, p)
		if !bytes.Equal(p.Pix, kept) {
			t.Error("Pack wrote into the picture")
		}
		was := slices.Clone(b)
		wipe(p.Pix)
		wipe(again)
		if !bytes.Equal(b, was) {
			t.Error("packed bytes change with the picture, or with others")
		}
		q, _ := pict.Unpack(b)
		r, _ := pict.Unpack(b)
		if !bytes.Equal(b, was) {
			t.Error("Unpack wrote into the bytes")
		}
		wipe(b)
		wipe(r.Pix)
		if !bytes.Equal(q.Pix, kept) {
			t.Error("an unpacked picture changes with its bytes, or with another")
		}
	}
}
