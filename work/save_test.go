package work_test

import (
	"bytes"
	"math"
	"math/big"
	"slices"
	"testing"

	"rayhouse/api"
	"rayhouse/film"
	"rayhouse/work"
)

const (
	mostLight = 1 << 40
	mostShots = 1 << 20
)

// drawn: a film of drawn numbers, small ones and great ones, all bytes of them.
func (d *die) drawn(w, h int) api.Film {
	f := api.Film{W: w, H: h}
	number := func(bits int) int {
		if d.n(20) == 0 {
			return 1 << bits
		}
		return (d.n(1<<20)<<20 | d.n(1<<20)) >> (40 - bits) >> d.n(bits)
	}
	for range w * h {
		f.Light = append(f.Light, number(40), number(40), number(40))
		f.Shots = append(f.Shots, number(20))
	}
	return f
}

func nought(w, h int) api.Film {
	return api.Film{W: w, H: h, Light: make([]int, 3*w*h), Shots: make([]int, w*h)}
}

func copied(f api.Film) api.Film {
	return api.Film{W: f.W, H: f.H, Light: slices.Clone(f.Light), Shots: slices.Clone(f.Shots)}
}

// told: a number in so many bytes.
func told(n, size int) []byte {
	return big.NewInt(int64(n)).FillBytes(make([]byte, size))
}

// sealed: bytes, and the sum of them, worked out without wrapping round.
func sealed(b []byte) []byte {
	h := 1
	for _, x := range b {
		h = (h ^ int(x)) * 16777619 % (1 << 32)
	}
	return append(slices.Clone(b), told(h, 4)...)
}

// packed: W2 once more; also of films that may not be, as long as their numbers have room.
func packed(f api.Film) []byte {
	b := []byte{'R', 'H', 'F', '1', byte(f.W), byte(f.H)}
	for _, n := range f.Light {
		b = append(b, told(n, 6)...)
	}
	for _, n := range f.Shots {
		b = append(b, told(n, 3)...)
	}
	return sealed(b)
}

func saved(t *testing.T, f api.Film) []byte {
	t.Helper()
	b, e := work.Save(f)
	if e != api.OK {
		t.Fatalf("Save of %v: %d", f, e)
	}
	return b
}

func holdLoad(t *testing.T, b []byte, want api.Errno) {
	t.Helper()
	before := slices.Clone(b)
	if f, e := work.Load(b); e != want || !empty(f) {
		t.Errorf("Load of %d bytes, % x ..: %v, %d, not %d", len(b), b[:min(len(b), 40)], f, e, want)
	}
	if !bytes.Equal(b, before) {
		t.Error("Load wrote into the bytes")
	}
}

// W2

func TestSaveOfKnownFilms(t *testing.T) {
	light, shots := []int{1, 258, 1 << 40, 0x0102030405, 255, 0}, []int{1 << 20, 0x010203}
	middle := []byte{
		0, 0, 0, 0, 0, 1, 0, 0, 0, 0, 1, 2, 1, 0, 0, 0, 0, 0, 0, 1, 2, 3, 4, 5, 0, 0, 0, 0, 0, 255, 0, 0, 0, 0, 0, 0,
		0x10, 0, 0, 1, 2, 3,
	}
	for _, c := range []struct {
		f    api.Film
		want [][]byte
	}{
		{nought(1, 1), [][]byte{{'R', 'H', 'F', '1', 1, 1}, make([]byte, 21), {0x47, 0x96, 0x52, 0xe0}}},
		{api.Film{W: 1, H: 2, Light: light, Shots: shots}, [][]byte{{'R', 'H', 'F', '1', 1, 2}, middle, {0x2e, 0x38, 0x5c, 0x0e}}},
		{api.Film{W: 2, H: 1, Light: light, Shots: shots}, [][]byte{{'R', 'H', 'F', '1', 2, 1}, middle, {0x03, 0x0c, 0xe5, 0x70}}},
	} {
		if got, want := saved(t, c.f), slices.Concat(c.want...); !bytes.Equal(got, want) {
			t.Errorf("Save of %v: % x, not % x", c.f, got, want)
		}
	}
}

// refused: films that may not be.
func refused() []api.Film {
	one := nought(2, 2)
	with := func(do func(*api.Film)) api.Film {
		f := copied(one)
		do(&f)
		return f
	}
	return []api.Film{
		{}, nought(0, 1), nought(1, 0), nought(api.MaxSide+1, 1), nought(1, api.MaxSide+1), nought(256, 1), nought(257, 1),
		with(func(f *api.Film) { f.W = -2; f.H = -2 }), with(func(f *api.Film) { f.H = math.MaxInt }),
		with(func(f *api.Film) { f.W = 1 }), with(func(f *api.Film) { f.H = 3 }), with(func(f *api.Film) { f.Light = f.Light[1:] }), with(func(f *api.Film) { f.Shots = append(f.Shots, 0) }),
		with(func(f *api.Film) { f.Light[11] = -1 }), with(func(f *api.Film) { f.Light[0] = mostLight + 1 }), with(func(f *api.Film) { f.Light[5] = 1 << 48 }), with(func(f *api.Film) { f.Light[5] = math.MinInt }),
		with(func(f *api.Film) { f.Shots[3] = -1 }), with(func(f *api.Film) { f.Shots[0] = mostShots + 1 }), with(func(f *api.Film) { f.Shots[1] = 1 << 24 }), with(func(f *api.Film) { f.Shots[1] = math.MaxInt }),
	}
}

func TestSaveRefuses(t *testing.T) {
	for _, f := range refused() {
		want := film.May(f)
		if want == api.OK {
			t.Fatalf("%v may be: the test tells nothing", f)
		}
		if b, e := work.Save(f); e != want || len(b) != 0 {
			t.Errorf("Save of %v: %v, %d, not %d", f, b, e, want)
		}
	}
}

func TestThereAndBack(t *testing.T) {
	d := die(11)
	for _, sides := range [][2]int{{1, 1}, {1, 2}, {2, 1}, {3, 5}, {5, 3}, {api.MaxSide, 1}, {1, api.MaxSide}, {api.MaxSide, api.MaxSide}} {
		for i := range 8 {
			f := d.drawn(sides[0], sides[1])
			switch i {
			case 0:
				f = nought(sides[0], sides[1])
			case 1:
				for k := range f.Light {
					f.Light[k] = mostLight
				}
				for k := range f.Shots {
					f.Shots[k] = mostShots
				}
			}
			b := saved(t, f)
			if want := packed(f); !bytes.Equal(b, want) || len(b) != 10+21*f.W*f.H {
				t.Fatalf("Save of %v: % x, not % x", f, b, want)
			}
			if got, e := work.Load(b); e != api.OK || !same(got, f) {
				t.Fatalf("Load of Save of %v: %v, %d", f, got, e)
			}
		}
	}
}

// Of a saved film each byte is turned into each other one: it isn't taken for one.
func TestEachByteTurned(t *testing.T) {
	d := die(12)
	for _, sides := range [][2]int{{1, 1}, {2, 1}, {1, 3}, {2, 2}} {
		b := saved(t, d.drawn(sides[0], sides[1]))
		for i := range b {
			for turn := 1; turn < 256; turn++ {
				b[i] ^= byte(turn)
				if f, e := work.Load(b); e == api.OK || !empty(f) {
					t.Fatalf("the byte %d of % x is turned by %d: %v, %d", i, b, turn, f, e)
				}
				b[i] ^= byte(turn)
			}
		}
	}
	b := saved(t, d.drawn(api.MaxSide, api.MaxSide))
	for i := 0; i < len(b); i += 1009 {
		b[i] ^= 16
		if f, e := work.Load(b); e == api.OK || !empty(f) {
			t.Fatalf("the byte %d of a great one is turned: %d", i, e)
		}
		b[i] ^= 16
	}
}

func TestLoadRefuses(t *testing.T) {
	f := nought(2, 1)
	f.Light[3], f.Shots[1] = 70000, 3
	good := saved(t, f)
	for n := range good {
		holdLoad(t, good[:n], api.ErrShort)
	}
	holdLoad(t, nil, api.ErrShort)
	holdLoad(t, []byte("XXXX\x00"), api.ErrShort)
	holdLoad(t, []byte("RHF1\x00"), api.ErrShort)
	for more := 1; more < 30; more++ {
		holdLoad(t, append(slices.Clone(good), make([]byte, more)...), api.ErrCount)
		// Even if the sum of all that is there would be right.
		holdLoad(t, sealed(append(slices.Clone(good), make([]byte, more)...)), api.ErrCount)
	}
	holdLoad(t, append(slices.Clone(good), good...), api.ErrCount)
	for i := range 4 {
		b := slices.Clone(good)
		b[i] ^= 1
		holdLoad(t, b, api.ErrForm)
		holdLoad(t, sealed(b[:len(b)-4]), api.ErrForm)
		b[4], b[5] = 0, 0
		holdLoad(t, b[:6], api.ErrForm)
	}
	for _, sides := range [][2]byte{{0, 1}, {1, 0}, {0, 0}, {api.MaxSide + 1, 1}, {1, api.MaxSide + 1}, {255, 255}, {0, 255}} {
		b := []byte{'R', 'H', 'F', '1', sides[0], sides[1]}
		holdLoad(t, b, api.ErrLimit)
		holdLoad(t, sealed(b), api.ErrLimit)
		holdLoad(t, packed(nought(int(sides[0]), int(sides[1]))), api.ErrLimit)
	}
	for _, sides := range [][2]byte{{1, 1}, {api.MaxSide, api.MaxSide}} {
		holdLoad(t, []byte{'R', 'H', 'F', '1', sides[0], sides[1]}, api.ErrShort)
	}
}

func TestLoadChecks(t *testing.T) {
	d := die(13)
	f := d.drawn(2, 2)
	good := saved(t, f)
	for i := range 4 {
		b := slices.Clone(good)
		b[len(b)-4+i] ^= byte(1 << (2 * i))
		holdLoad(t, b, api.ErrCheck)
	}
	for i := 6; i < len(good); i++ {
		b := slices.Clone(good)
		b[i]++
		holdLoad(t, b, api.ErrCheck)
	}
	// With a right sum, and a number that may not be; with a wrong sum that is told first.
	for at := range 12 {
		for _, n := range []int{mostLight + 1, 1 << 41, 1<<48 - 1} {
			g := copied(f)
			g.Light[at] = n
			b := packed(g)
			holdLoad(t, b, api.ErrValue)
			b[len(b)-1]++
			holdLoad(t, b, api.ErrCheck)
		}
	}
	for at := range 4 {
		for _, n := range []int{mostShots + 1, 1 << 21, 1<<24 - 1} {
			g := copied(f)
			g.Shots[at] = n
			b := packed(g)
			holdLoad(t, b, api.ErrValue)
			b[8]++
			holdLoad(t, b, api.ErrCheck)
		}
	}
	// One byte too few, or too many, is told ahead of a wrong sum.
	b := slices.Clone(good)
	b[10]++
	holdLoad(t, b[:len(b)-1], api.ErrShort)
	holdLoad(t, append(b, 0), api.ErrCount)
}

func TestLoadOfDrawnBytes(t *testing.T) {
	d := die(14)
	for range 20000 {
		b := []byte("RHF1")
		if d.n(10) == 0 {
			b[d.n(4)] = byte(d.n(256))
		}
		for range d.n(60) {
			b = append(b, byte(d.n(3)))
		}
		if d.n(2) == 0 {
			b = sealed(b)
		}
		f, e := work.Load(b)
		if e != api.OK && !empty(f) || e == api.OK && !bytes.Equal(packed(f), b) {
			t.Fatalf("Load of % x: %v, %d", b, f, e)
		}
	}
}

// X2

func TestSaveAndLoadAreFresh(t *testing.T) {
	d := die(15)
	f := d.drawn(3, 2)
	kept := copied(f)
	b, again := saved(t, f), saved(t, f)
	if !same(f, kept) {
		t.Error("Save wrote into the film")
	}
	bytesWas := slices.Clone(b)
	g, _ := work.Load(b)
	h, _ := work.Load(b)
	wipe(f.Light)
	wipe(f.Shots)
	wipeBytes(again)
	if !bytes.Equal(b, bytesWas) {
		t.Error("saved bytes change with the film, or with others")
	}
	wipeBytes(b)
	wipe(h.Light)
	if !slices.Equal(h.Shots, kept.Shots) {
		t.Error("the shots lie where the light has room")
	}
	wipe(h.Shots)
	if !same(g, kept) {
		t.Error("a loaded film changes with its bytes, or with another")
	}
}

func wipeBytes(b []byte) {
	b = b[:cap(b)]
	for i := range b {
		b[i] ^= 255
	}
}
