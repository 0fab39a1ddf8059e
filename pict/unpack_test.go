package pict_test

import (
	"bytes"
	"slices"
	"testing"

	"rayhouse/api"
	"rayhouse/pict"
)

// holdUnpack: the error of bytes.
func holdUnpack(t *testing.T, b []byte, want api.Errno) {
	t.Helper()
	before := slices.Clone(b)
	if p, e := pict.Unpack(b); e != want || !empty(p) {
		t.Errorf("Unpack of %d bytes, % x ..: %v, %d, not %d", len(b), b[:min(len(b), 40)], p, e, want)
	}
	if !bytes.Equal(b, before) {
		t.Error("Unpack wrote into the bytes")
	}
}

// holdSecond: the picture or the error of bytes, against the second working.
func holdSecond(t *testing.T, b []byte) api.Errno {
	t.Helper()
	p, e := pict.Unpack(b)
	if q, want := secondUnpack(b); e != want || !same(p, q) {
		t.Fatalf("Unpack of % x: %v, %d, not %v, %d", b, p, e, q, want)
	}
	if e == api.OK && !bytes.Equal(packed(t, p), b) {
		t.Fatalf("Unpack takes % x, which is % x", b, packed(t, p))
	}
	return e
}

// headed: bytes behind a head.
func headed(w, h byte, pieces ...[]byte) []byte {
	return slices.Concat([]byte{'R', 'H', 'P', '1', w, h}, slices.Concat(pieces...))
}

// some: packed pictures, small enough to turn each byte of them.
func some(t *testing.T) (l [][]byte) {
	d := die(3)
	for _, s := range [][2]int{{1, 1}, {1, 2}, {2, 1}, {3, 3}, {5, 2}} {
		l = append(l, packed(t, filled(s[0], s[1], d.pixel())), packed(t, unlike(s[0], s[1])), packed(t, d.streaked(s[0], s[1], 4)), packed(t, d.drawn(s[0], s[1])))
	}
	return append(l, packed(t, d.streaked(20, 20, 200)), packed(t, filled(64, 64, four{1, 2, 3, 4})))
}

// G2

// Of what is packed each byte is turned into each other one. Only where it is turned by the round of the check may it be taken, and then for another picture.
func TestEachByteTurned(t *testing.T) {
	for _, b := range some(t) {
		for i, was := range b {
			for n := range 256 {
				b[i] = byte(n)
				e := holdSecond(t, b)
				if apart := n - int(was); e == api.OK && apart != 0 && apart != 251 && apart != -251 {
					t.Fatalf("% x is taken: the byte %d was %d", b, i, was)
				}
			}
			b[i] = was
		}
	}
}

func TestEveryCut(t *testing.T) {
	d := die(4)
	all := append(some(t), packed(t, unlike(api.MaxSide, 3)), packed(t, d.streaked(api.MaxSide, 9, 150)))
	for _, b := range all {
		for n := range b {
			holdUnpack(t, b[:n], api.ErrShort)
		}
	}
}

func TestBytesTooFew(t *testing.T) {
	for _, b := range [][]byte{nil, {}, []byte("R"), []byte("RHP1"), []byte("RHP1\x01"), []byte("XXXXX"), []byte("RHP1\x00"), {0, 0, 0, 0, 0}, {255}} {
		holdUnpack(t, b, api.ErrShort)
	}
	holdUnpack(t, []byte("RHP1\x01\x01"), api.ErrShort)
	holdUnpack(t, []byte("RHP1\x40\x40"), api.ErrShort)
}

func TestAnotherBeginning(t *testing.T) {
	good := packed(t, unlike(3, 2))
	for i := range 4 {
		for bit := range 8 {
			b := slices.Clone(good)
			b[i] ^= 1 << bit
			holdUnpack(t, b, api.ErrForm)
			holdUnpack(t, sealed(b[:len(b)-2]), api.ErrForm)
			// Ahead of wrong sides, and of what is missing behind.
			b[4], b[5] = 0, 255
			holdUnpack(t, b, api.ErrForm)
			holdUnpack(t, b[:6], api.ErrForm)
		}
	}
	for _, text := range []string{"RHF1\x01\x01", "rhp1\x01\x01", "RHP2\x01\x01", "1PHR\x01\x01", "\x00RHP1\x01\x01", "HP1\x01\x01\x01"} {
		holdUnpack(t, []byte(text), api.ErrForm)
	}
}

func TestWrongSides(t *testing.T) {
	for _, s := range [][2]byte{{0, 1}, {1, 0}, {0, 0}, {api.MaxSide + 1, 1}, {1, api.MaxSide + 1}, {api.MaxSide + 1, api.MaxSide + 1}, {255, 1}, {1, 255}, {0, 255}, {128, 64}} {
		holdUnpack(t, headed(s[0], s[1]), api.ErrLimit)
		holdUnpack(t, sealed(headed(s[0], s[1])), api.ErrLimit)
		p := noughts(int(s[0]), int(s[1]), 4*int(s[0])*int(s[1]))
		holdUnpack(t, secondPack(p), api.ErrLimit)
		holdUnpack(t, secondPack(unlike(int(s[0]), int(s[1]))), api.ErrLimit)
	}
	for _, s := range [][2]int{{1, 1}, {api.MaxSide, 1}, {1, api.MaxSide}, {api.MaxSide, api.MaxSide}} {
		holdPack(t, unlike(s[0], s[1]))
	}
}

// A piece ends within its bytes, wherever; that is told ahead of its giving too many pixels.
func TestPiecesThatAreNotWhole(t *testing.T) {
	for _, first := range []byte{0, 1, 5, 126, 127, 128, 129, 130, 254, 255} {
		has := 4
		if first < 128 {
			has = 4 * (int(first) + 1)
		}
		for n := range has {
			for _, s := range [][2]byte{{1, 1}, {2, 1}, {16, 8}, {64, 64}} {
				holdUnpack(t, headed(s[0], s[1], piece(first, singles(128, 1)[:n])), api.ErrShort)
				if s[0] == 64 {
					holdUnpack(t, headed(64, 64, piece(255, []byte{1, 2, 3, 4}), piece(first, singles(128, 1)[:n])), api.ErrShort)
				}
			}
		}
	}
	// The piece takes in the bytes that were to be the check.
	one := []byte{1, 2, 3, 4}
	holdUnpack(t, headed(2, 1, piece(1, one), []byte{9, 9, 9, 9}), api.ErrShort)
	holdUnpack(t, headed(2, 1, piece(1, one), []byte{9, 9, 9}), api.ErrShort)
	holdUnpack(t, sealed(headed(2, 1, piece(1, one), []byte{9, 9})), api.ErrShort)
	// Whole, but there is nothing behind it where another piece is asked for.
	holdUnpack(t, headed(2, 1, piece(0, one)), api.ErrShort)
	holdUnpack(t, sealed(headed(3, 1, piece(129, one))), api.ErrShort)
	holdUnpack(t, headed(3, 1, piece(129, one)), api.ErrShort)
}

// The byte 128 is that of a run of one: its piece is read, but Pack makes no such piece.
func TestTheByte128(t *testing.T) {
	one, other := []byte{1, 2, 3, 4}, []byte{5, 6, 7, 8}
	run := piece(128, one)
	holdUnpack(t, headed(1, 1, run), api.ErrShort)
	holdUnpack(t, append(headed(1, 1, run), 0), api.ErrShort)
	holdUnpack(t, append(headed(1, 1, run), 250, 250), api.ErrCheck)
	holdUnpack(t, append(headed(1, 1, run), 0, 0, 0), api.ErrCount)
	holdUnpack(t, sealed(headed(1, 1, run)), api.ErrForm)
	holdUnpack(t, sealed(headed(2, 1, run, piece(0, other))), api.ErrForm)
	holdUnpack(t, sealed(headed(2, 1, piece(0, other), run)), api.ErrForm)
	holdUnpack(t, sealed(headed(2, 1, run, run)), api.ErrForm)
	holdUnpack(t, sealed(headed(3, 1, piece(129, other), run)), api.ErrForm)
	holdUnpack(t, sealed(headed(2, 1, run)), api.ErrShort)
	holdUnpack(t, sealed(headed(2, 1, piece(129, other), run)), api.ErrCount)
	holdUnpack(t, headed(2, 1, piece(129, other), run), api.ErrCount)
}

func TestMorePixelsThanThereAre(t *testing.T) {
	one, many := []byte{1, 2, 3, 4}, singles(200, 1)
	for _, b := range [][]byte{
		headed(1, 1, piece(1, many[:8])), headed(1, 1, piece(129, one)), headed(1, 1, piece(255, one)), headed(1, 1, piece(127, many[:512])),
		headed(2, 1, piece(0, one), piece(129, one)), headed(2, 1, piece(0, one), piece(1, many[:8])), headed(1, 2, piece(130, one)), headed(2, 1, piece(2, many[:12])),
		headed(2, 2, piece(129, one), piece(2, many[:12])), headed(16, 8, piece(254, one), piece(129, one)), headed(16, 8, piece(127, many[4:512]), piece(129, one), one),
		headed(64, 2, piece(126, many[:4*127]), piece(1, many[:8])),
	} {
		holdUnpack(t, b, api.ErrCount)
		holdUnpack(t, sealed(b), api.ErrCount)
		holdUnpack(t, append(slices.Clone(b), 1, 2, 3), api.ErrCount)
	}
	full := bytes.Repeat(piece(255, one), 31)
	holdPack(t, filled(64, 64, four(one)))
	holdUnpack(t, headed(64, 64, full, piece(254, one), piece(129, one)), api.ErrCount)
	holdUnpack(t, headed(64, 64, full, piece(254, one), piece(1, many[:8])), api.ErrCount)
	// Behind as many pixels as there are nothing is a piece any more: bytes are left.
	holdUnpack(t, headed(64, 64, full, piece(255, one), piece(255, one)), api.ErrCount)
	holdUnpack(t, headed(1, 1, piece(0, one), piece(0, one)), api.ErrCount)
}

func TestBytesBehindThePixels(t *testing.T) {
	for _, good := range some(t) {
		bare := good[:len(good)-2]
		holdUnpack(t, bare, api.ErrShort)
		holdUnpack(t, good[:len(good)-1], api.ErrShort)
		if e := holdSecond(t, good); e != api.OK {
			t.Errorf("% x: %d", good, e)
		}
		for more := 1; more < 20; more++ {
			long := append(slices.Clone(good), make([]byte, more)...)
			holdUnpack(t, long, api.ErrCount)
			// Even if the check of all that is there would be right.
			holdUnpack(t, sealed(long[:len(long)-2]), api.ErrCount)
		}
		holdUnpack(t, slices.Concat(good, good), api.ErrCount)
	}
}

func TestWrongCheck(t *testing.T) {
	for _, good := range some(t) {
		for _, i := range []int{len(good) - 2, len(good) - 1} {
			for n := range 256 {
				b := slices.Clone(good)
				if b[i] != byte(n) {
					b[i] = byte(n)
					holdUnpack(t, b, api.ErrCheck)
				}
			}
		}
		b := slices.Clone(good)
		b[len(b)-2], b[len(b)-1] = b[len(b)-1], b[len(b)-2]
		if b[len(b)-2] != b[len(b)-1] {
			holdUnpack(t, b, api.ErrCheck)
		}
	}
	// Ahead of pieces that are not as Pack makes them.
	b := sealed(headed(2, 1, piece(1, []byte{1, 2, 3, 4, 1, 2, 3, 4})))
	holdUnpack(t, b, api.ErrForm)
	b[len(b)-1] ^= 1
	holdUnpack(t, b, api.ErrCheck)
	b[len(b)-1] ^= 1
	b[len(b)-2] ^= 1
	holdUnpack(t, b, api.ErrCheck)
}

// Pieces that are whole and give as many pixels, but not those of Pack.
func TestPiecesThatPackDoesNotMake(t *testing.T) {
	one, two, many := []byte{1, 2, 3, 4}, []byte{1, 2, 3, 4, 5, 6, 7, 8}, singles(200, 1)
	for _, c := range [][]byte{
		headed(2, 1, piece(1, slices.Concat(one, one))), headed(2, 1, piece(0, one), piece(0, one)), headed(2, 1, piece(0, two[:4]), piece(0, two[4:])),
		headed(3, 1, piece(129, one), piece(0, one)), headed(3, 1, piece(0, one), piece(129, one)), headed(2, 2, piece(129, one), piece(129, one)),
		headed(3, 1, piece(2, slices.Concat(one, two))), headed(3, 1, piece(1, slices.Concat(two[4:], one)), piece(0, one)), headed(3, 1, piece(2, slices.Concat(two[4:], one, one))),
		headed(16, 8, piece(254, one), piece(0, one)), headed(16, 8, piece(253, one), piece(129, one)), headed(13, 10, piece(254, one), piece(130, one)), headed(13, 10, piece(253, one), piece(131, one)),
		headed(16, 8, piece(126, many[:4*127]), piece(0, many[4*127:4*128])), headed(13, 10, piece(126, many[:4*127]), piece(2, many[4*127:4*130])),
		headed(43, 3, piece(0, one), piece(255, one)),
	} {
		holdUnpack(t, sealed(c), api.ErrForm)
		if e := holdSecond(t, sealed(c)); e != api.ErrForm {
			t.Errorf("% x: %d", c, e)
		}
	}
}

func TestUnpackOfDrawnBytes(t *testing.T) {
	d := die(5)
	var told [16]int
	for range 60000 {
		b := headed(byte(1+d.n(4)), byte(1+d.n(3)))
		if d.n(20) == 0 {
			b[d.n(6)] = byte(d.n(256))
		}
		for range d.n(6) {
			first := byte(d.n(3))
			if d.n(2) == 0 {
				first = byte(128 + d.n(5))
			}
			b = append(b, first)
			n := 4
			if first < 128 {
				n = 4 * (int(first) + 1)
			}
			for range n {
				b = append(b, byte(d.n(8)/7))
			}
		}
		switch d.n(8) {
		case 0:
			b = b[:d.n(len(b))]
		case 1:
			b = append(b, byte(d.n(251)), byte(d.n(251)))
		default:
			b = sealed(b)
		}
		told[holdSecond(t, b)]++
	}
	for _, e := range []api.Errno{api.OK, api.ErrShort, api.ErrForm, api.ErrLimit, api.ErrCount, api.ErrCheck} {
		if told[e] == 0 {
			t.Errorf("%d was never told", e)
		}
	}
}
