package skin_test

import (
	"math"
	"slices"
	"testing"

	"rayhouse/api"
	"rayhouse/skin"
)

// die: numbers that look drawn, the same each time.
type die uint64

func (d *die) n(most int) int {
	*d = *d*6364136223846793005 + 1442695040888963407
	return int(uint64(*d>>33) % uint64(most))
}

// drawn: a picture of drawn bytes.
func drawn(d *die, w, h int) api.Picture {
	p := api.Picture{W: w, H: h}
	for range w * h * 4 {
		p.Pix = append(p.Pix, byte(d.n(256)))
	}
	return p
}

// grey: a picture whose pixels are n, n + 1, n + 2, n + 3.
func grey(w, h int, pixels ...byte) api.Picture {
	p := api.Picture{W: w, H: h}
	for _, n := range pixels {
		p.Pix = append(p.Pix, n, n+1, n+2, n+3)
	}
	return p
}

// four: the colour of a pixel of such a picture.
func four(n byte) [4]byte {
	return [4]byte{n, n + 1, n + 2, n + 3}
}

func samePicture(a, b api.Picture) bool {
	return a.W == b.W && a.H == b.H && slices.Equal(a.Pix, b.Pix)
}

func empty(p api.Picture) bool {
	return p.W == 0 && p.H == 0 && len(p.Pix) == 0
}

// byteOf: one byte of the pixel that stands there.
func byteOf(p api.Picture, x, y, i int) int {
	return int(p.Pix[4*(p.W*y+x)+i])
}

// bytes: a picture of these sides with so many bytes.
func bytes(w, h, n int) api.Picture {
	return api.Picture{W: w, H: h, Pix: make([]byte, n)}
}

type sided struct {
	p    api.Picture
	want api.Errno
}

// refused: pictures that may not be.
func refused() []sided {
	return []sided{
		{bytes(0, 1, 0), api.ErrLimit}, {bytes(1, 0, 0), api.ErrLimit}, {bytes(0, 0, 0), api.ErrLimit}, {api.Picture{}, api.ErrLimit},
		{bytes(-1, 1, 4), api.ErrLimit}, {bytes(1, -1, 4), api.ErrLimit}, {bytes(-1, -1, 4), api.ErrLimit}, {bytes(-2, -3, 24), api.ErrLimit},
		{bytes(api.MaxSide+1, 1, 4*(api.MaxSide+1)), api.ErrLimit}, {bytes(1, api.MaxSide+1, 4*(api.MaxSide+1)), api.ErrLimit},
		{bytes(math.MaxInt, 1, 4), api.ErrLimit}, {bytes(1, math.MinInt, 4), api.ErrLimit}, {bytes(1<<32, 1<<32, 0), api.ErrLimit}, {bytes(1<<32+1, 1, 4), api.ErrLimit},
		{bytes(0, 1, 4), api.ErrLimit}, {bytes(api.MaxSide+1, 1, 3), api.ErrLimit},
		{bytes(1, 1, 3), api.ErrCount}, {bytes(1, 1, 5), api.ErrCount}, {bytes(1, 1, 0), api.ErrCount}, {bytes(1, 1, 1), api.ErrCount}, {bytes(1, 1, 8), api.ErrCount},
		{bytes(3, 2, 23), api.ErrCount}, {bytes(3, 2, 25), api.ErrCount}, {bytes(3, 2, 6), api.ErrCount}, {bytes(3, 2, 18), api.ErrCount},
		{bytes(api.MaxSide, api.MaxSide, 4*api.MaxSide*api.MaxSide-1), api.ErrCount}, {bytes(api.MaxSide, api.MaxSide, 4*api.MaxSide*api.MaxSide+1), api.ErrCount},
	}
}

// P1

func TestMay(t *testing.T) {
	for _, sides := range [][2]int{{1, 1}, {1, 7}, {7, 1}, {3, 2}, {api.MaxSide, 1}, {1, api.MaxSide}, {api.MaxSide - 1, 2}, {api.MaxSide, api.MaxSide}} {
		if e := skin.May(bytes(sides[0], sides[1], 4*sides[0]*sides[1])); e != api.OK {
			t.Errorf("May of %v: %d", sides, e)
		}
	}
	for _, c := range refused() {
		if e := skin.May(c.p); e != c.want {
			t.Errorf("May of %d by %d with %d bytes: %d, not %d", c.p.W, c.p.H, len(c.p.Pix), e, c.want)
		}
	}
}

func TestAllCallsSayMayFirst(t *testing.T) {
	for _, c := range refused() {
		for _, at := range [][3]int{{api.Repeat, 0, 0}, {3, 0, 0}, {api.Hold, 1<<30 + 1, 0}, {-1, math.MinInt, math.MaxInt}} {
			if got, e := skin.At(c.p, at[0], at[1], at[2]); got != [4]byte{} || e != c.want {
				t.Errorf("At %v of %d by %d with %d bytes: %v, %d", at, c.p.W, c.p.H, len(c.p.Pix), got, e)
			}
		}
		if got, e := skin.Half(c.p); !empty(got) || e != c.want {
			t.Errorf("Half of %d by %d with %d bytes: %v, %d", c.p.W, c.p.H, len(c.p.Pix), got, e)
		}
		if got, e := skin.Halves(c.p); len(got) != 0 || e != c.want {
			t.Errorf("Halves of %d by %d with %d bytes: %v, %d", c.p.W, c.p.H, len(c.p.Pix), got, e)
		}
	}
}

// P2

var ways = []int{api.Repeat, api.Fold, api.Hold}

func holdAt(t *testing.T, p api.Picture, way, u, v int, want [4]byte) {
	t.Helper()
	if got, e := skin.At(p, way, u, v); got != want || e != api.OK {
		t.Errorf("way %d at %d, %d: %v (%d), not %v", way, u, v, got, e, want)
	}
}

func TestAtRefuses(t *testing.T) {
	const far = 1 << 30
	p := grey(2, 2, 10, 20, 30, 40)
	for _, c := range []struct {
		way, u, v int
		want      api.Errno
	}{
		{-1, 0, 0, api.ErrKind}, {3, 0, 0, api.ErrKind}, {math.MinInt, 0, 0, api.ErrKind}, {math.MaxInt, 0, 0, api.ErrKind}, {1 << 32, 0, 0, api.ErrKind},
		{-1, far + 1, 0, api.ErrKind}, {3, 0, -far - 1, api.ErrKind},
		{0, far + 1, 0, api.ErrReach}, {1, far + 1, 0, api.ErrReach}, {2, far + 1, 0, api.ErrReach},
		{0, -far - 1, 0, api.ErrReach}, {0, 0, far + 1, api.ErrReach}, {2, 0, -far - 1, api.ErrReach},
		{0, math.MaxInt, 0, api.ErrReach}, {1, math.MinInt, 0, api.ErrReach}, {2, 0, math.MaxInt, api.ErrReach}, {0, 0, math.MinInt, api.ErrReach}, {0, 1 << 32, -1 << 32, api.ErrReach},
	} {
		if got, e := skin.At(p, c.way, c.u, c.v); got != [4]byte{} || e != c.want {
			t.Errorf("way %d at %d, %d: %v, %d, not %d", c.way, c.u, c.v, got, e, c.want)
		}
	}
	for _, way := range ways {
		for _, n := range []int{-far, far} {
			for _, at := range [][2]int{{n, 0}, {0, n}, {n, n}, {n, -n}} {
				if _, e := skin.At(p, way, at[0], at[1]); e != api.OK {
					t.Errorf("way %d at %v: %d", way, at, e)
				}
			}
		}
	}
}

func TestAtTheMiddleOfPixels(t *testing.T) {
	d := die(5)
	for _, sides := range [][2]int{{1, 1}, {1, 5}, {5, 1}, {4, 3}, {7, 6}, {api.MaxSide, api.MaxSide}} {
		p := drawn(&d, sides[0], sides[1])
		for y := range p.H {
			for x := range p.W {
				want := [4]byte(p.Pix[4*(p.W*y+x):])
				for _, way := range ways {
					holdAt(t, p, way, 256*x+128, 256*y+128, want)
				}
			}
		}
	}
}

func TestAtBetweenPixels(t *testing.T) {
	p := grey(2, 2, 0, 100, 40, 200)
	for _, way := range ways {
		for _, c := range []struct {
			u, v int
			want byte
		}{
			{256, 128, 50}, {128, 256, 20}, {256, 256, 85}, {384, 256, 150}, {256, 384, 120},
			{192, 128, 25}, {320, 128, 75}, {192, 192, 39}, // 38.75
			{129, 128, 0}, {130, 128, 1}, {131, 128, 1}, // 0.39, 0.78, 1.17
			{383, 128, 100}, {382, 128, 99},
		} {
			holdAt(t, p, way, c.u, c.v, four(c.want))
		}
	}
	// Just a half goes up, just below it goes down.
	halves := grey(2, 1, 10, 11)
	holdAt(t, halves, api.Hold, 256, 128, four(11))
	holdAt(t, halves, api.Hold, 255, 128, four(10))
	white := api.Picture{W: 2, H: 2, Pix: slices.Repeat([]byte{255}, 16)}
	for n := range 257 {
		holdAt(t, white, api.Fold, 128+n, 384-n, [4]byte{255, 255, 255, 255})
	}
}

func TestAtAboutTheFirstMiddle(t *testing.T) {
	p := grey(2, 1, 0, 200)
	for _, c := range []struct {
		way, u int
		want   byte
	}{
		{api.Repeat, 128, 0}, {api.Repeat, 127, 1}, {api.Repeat, 126, 2}, {api.Repeat, 129, 1}, {api.Repeat, 0, 100}, {api.Repeat, -1, 101}, {api.Repeat, 1, 99}, {api.Repeat, -128, 200},
		{api.Fold, 128, 0}, {api.Fold, 127, 0}, {api.Fold, 0, 0}, {api.Fold, -128, 0}, {api.Fold, -129, 1}, {api.Fold, -384, 200}, {api.Fold, 129, 1},
		{api.Hold, 128, 0}, {api.Hold, 127, 0}, {api.Hold, 0, 0}, {api.Hold, -128, 0}, {api.Hold, -129, 0}, {api.Hold, -100000, 0}, {api.Hold, 129, 1},
		{api.Repeat, 384, 200}, {api.Repeat, 385, 199}, {api.Repeat, 512, 100}, {api.Repeat, 640, 0},
		{api.Fold, 384, 200}, {api.Fold, 385, 200}, {api.Fold, 640, 200}, {api.Fold, 641, 199}, {api.Fold, 896, 0}, {api.Fold, 1152, 0}, {api.Fold, 1153, 1},
		{api.Hold, 384, 200}, {api.Hold, 385, 200}, {api.Hold, 640, 200}, {api.Hold, 100000, 200},
	} {
		holdAt(t, p, c.way, c.u, 128, four(c.want))
		turned := api.Picture{W: 1, H: 2, Pix: p.Pix}
		holdAt(t, turned, c.way, 128, c.u, four(c.want))
	}
}

// The pixels of a row of three, in each way, told one by one.
func TestAtBeyondTheSides(t *testing.T) {
	p := grey(3, 1, 10, 20, 30)
	for way, row := range map[int][]byte{
		api.Repeat: {30, 10, 20, 30, 10, 20, 30, 10, 20, 30, 10, 20, 30, 10, 20},
		api.Fold:   {10, 10, 20, 30, 30, 20, 10, 10, 20, 30, 30, 20, 10, 10, 20},
		api.Hold:   {10, 10, 10, 10, 10, 10, 10, 10, 20, 30, 30, 30, 30, 30, 30},
	} {
		for i, want := range row {
			x := i - 7
			holdAt(t, p, way, 256*x+128, 128, four(want))
			holdAt(t, p, way, 256*x+128, 256*x+128, four(want))
		}
	}
}

// Whole rounds of the sides away (Repeat), or there and back (Fold), nothing is otherwise.
func TestAtFarBeyond(t *testing.T) {
	d := die(6)
	p := drawn(&d, 5, 3)
	for range 300 {
		u, v := d.n(256*5), d.n(256*3)
		for _, rounds := range []int{-400000, -1001, -1, 1, 2, 1001, 400000} {
			repeated, _ := skin.At(p, api.Repeat, u, v)
			holdAt(t, p, api.Repeat, u+256*5*rounds, v-256*3*rounds, repeated)
			folded, _ := skin.At(p, api.Fold, u, v)
			holdAt(t, p, api.Fold, u+256*10*(rounds/2), v-256*6*(rounds/2), folded)
		}
	}
	const far = 1 << 30
	for u, x := range map[int]int{-far: 0, far: 4} {
		for v, y := range map[int]int{-far: 0, far: 2} {
			holdAt(t, p, api.Hold, u, v, [4]byte(p.Pix[4*(5*y+x):]))
		}
	}
}

// walked: the pixel that stands for the n-th one, found by going there step by step.
func walked(way, n, side int) int {
	at, step := 0, 1
	back := n < 0
	if back { // Seen from the end, what lies ahead of the picture goes on as what lies behind it.
		n = side - 1 - n
	}
	for range n {
		switch {
		case at+step >= 0 && at+step < side:
			at += step
		case way == api.Repeat:
			at = 0
		case way == api.Fold:
			step = -step
		}
	}
	if back {
		return side - 1 - at
	}
	return at
}

// atByHand: four pixels, each times how near it is, through 65536.
func atByHand(p api.Picture, way, u, v int) (c [4]byte) {
	x, y := int(math.Floor(float64(u-128)/256)), int(math.Floor(float64(v-128)/256))
	s, t := u-128-256*x, v-128-256*y
	for i := range c {
		sum := 0
		for _, down := range []int{0, 1} {
			for _, along := range []int{0, 1} {
				sum += byteOf(p, walked(way, x+along, p.W), walked(way, y+down, p.H), i) * [2]int{256 - s, s}[along] * [2]int{256 - t, t}[down]
			}
		}
		c[i] = byte(math.Floor(float64(sum)/65536 + 0.5))
	}
	return c
}

func TestAtByHand(t *testing.T) {
	d := die(7)
	for range 4000 {
		p := drawn(&d, 1+d.n(7), 1+d.n(7))
		way, u, v := d.n(3), d.n(12000)-6000, d.n(12000)-6000
		before := slices.Clone(p.Pix)
		holdAt(t, p, way, u, v, atByHand(p, way, u, v))
		if !slices.Equal(p.Pix, before) {
			t.Fatal("At wrote into the picture")
		}
	}
}

func TestAtOfSmallPictures(t *testing.T) {
	one := grey(1, 1, 77)
	row, column := grey(3, 1, 5, 60, 130), grey(1, 3, 5, 60, 130)
	for _, way := range ways {
		for n := -2000; n <= 2000; n += 37 {
			holdAt(t, one, way, n, -n, four(77))
			along, _ := skin.At(row, way, n, 128)
			holdAt(t, row, way, n, 3*n, along)
			holdAt(t, column, way, 5*n, n, along)
		}
	}
}

// P3

func TestHalfOfKnownPictures(t *testing.T) {
	for _, c := range []struct{ p, want api.Picture }{
		{grey(1, 1, 9), grey(1, 1, 9)},
		{grey(2, 1, 10, 20), grey(1, 1, 15)},
		{grey(2, 1, 10, 21), grey(1, 1, 16)}, // 15.5
		{grey(1, 2, 10, 21), grey(1, 1, 16)},
		{grey(2, 2, 0, 0, 0, 1), grey(1, 1, 0)}, // 0.25
		{grey(2, 2, 0, 0, 1, 1), grey(1, 1, 1)}, // 0.5
		{grey(2, 2, 0, 1, 1, 1), grey(1, 1, 1)}, // 0.75
		{grey(2, 2, 252, 252, 252, 252), grey(1, 1, 252)},
		{grey(3, 1, 10, 20, 99), grey(2, 1, 15, 99)},
		{grey(1, 3, 10, 20, 99), grey(1, 2, 15, 99)},
		{grey(3, 3, 0, 4, 100, 8, 12, 200, 50, 60, 70), grey(2, 2, 6, 150, 55, 70)},
		{grey(4, 2, 0, 4, 100, 104, 8, 12, 108, 112), grey(2, 1, 6, 106)},
		{grey(3, 2, 0, 4, 100, 8, 12, 201), grey(2, 1, 6, 151)},
	} {
		got, e := skin.Half(c.p)
		if !samePicture(got, c.want) || e != api.OK {
			t.Errorf("Half of %v: %v (%d), not %v", c.p, got, e, c.want)
		}
	}
}

// halfByHand: of each byte the mean of those that fall to it, as a float tells it.
func halfByHand(p api.Picture) api.Picture {
	h := api.Picture{W: (p.W + 1) / 2, H: (p.H + 1) / 2}
	sums := make([]float64, 4*h.W*h.H)
	counts := make([]float64, len(sums))
	for y := range p.H {
		for x := range p.W {
			for i := range 4 {
				to := 4*(h.W*(y/2)+x/2) + i
				sums[to] += float64(byteOf(p, x, y, i))
				counts[to]++
			}
		}
	}
	for i := range sums {
		h.Pix = append(h.Pix, byte(math.Floor(sums[i]/counts[i]+0.5)))
	}
	return h
}

func TestHalfByHand(t *testing.T) {
	d := die(8)
	for w := 1; w <= 9; w++ {
		for h := 1; h <= 9; h++ {
			p := drawn(&d, w, h)
			if got, e := skin.Half(p); !samePicture(got, halfByHand(p)) || e != api.OK {
				t.Errorf("Half of %v: %v, %d", p, got, e)
			}
		}
	}
	for _, sides := range [][2]int{{api.MaxSide, api.MaxSide}, {api.MaxSide - 1, api.MaxSide}, {api.MaxSide, 1}, {1, api.MaxSide}} {
		p := drawn(&d, sides[0], sides[1])
		if got, e := skin.Half(p); !samePicture(got, halfByHand(p)) || e != api.OK {
			t.Errorf("Half of %d by %d: %d by %d, %d", p.W, p.H, got.W, got.H, e)
		}
	}
}

func TestHalves(t *testing.T) {
	d := die(9)
	for _, c := range []struct{ w, h, count int }{
		{1, 1, 1}, {2, 1, 2}, {1, 2, 2}, {2, 2, 2}, {3, 3, 3}, {4, 4, 3}, {5, 1, 4}, {1, 5, 4}, {7, 2, 4}, {9, 8, 5},
		{api.MaxSide, api.MaxSide, 7}, {api.MaxSide, 1, 7}, {1, api.MaxSide - 1, 7}, {33, 32, 7},
	} {
		want := drawn(&d, c.w, c.h)
		all, e := skin.Halves(want)
		if len(all) != c.count || e != api.OK {
			t.Errorf("Halves of %d by %d: %d pictures (%d), not %d", c.w, c.h, len(all), e, c.count)
			continue
		}
		for i, got := range all {
			if !samePicture(got, want) {
				t.Errorf("Halves of %d by %d: the picture %d is %v, not %v", c.w, c.h, i, got, want)
			}
			want = halfByHand(want)
		}
		if last := all[len(all)-1]; last.W != 1 || last.H != 1 {
			t.Errorf("Halves of %d by %d: the last one is %d by %d", c.w, c.h, last.W, last.H)
		}
	}
}

// wipe: writes over all that a list has room for.
func wipe(pix []byte) {
	pix = pix[:cap(pix)]
	for i := range pix {
		pix[i] ^= 255
	}
}

func TestHalfIsFresh(t *testing.T) {
	d := die(10)
	for _, sides := range [][2]int{{1, 1}, {2, 1}, {6, 5}} {
		p := drawn(&d, sides[0], sides[1])
		before := slices.Clone(p.Pix)
		got, _ := skin.Half(p)
		if !slices.Equal(p.Pix, before) {
			t.Error("Half wrote into the picture")
		}
		kept := slices.Clone(got.Pix)
		wipe(p.Pix)
		if !slices.Equal(got.Pix, kept) {
			t.Error("what Half gave changed with the picture")
		}
		copy(p.Pix, before)
		wipe(got.Pix)
		if !slices.Equal(p.Pix, before) {
			t.Error("the picture changed with what Half gave")
		}
	}
}

func TestHalvesAreFresh(t *testing.T) {
	d := die(11)
	for _, sides := range [][2]int{{1, 1}, {2, 1}, {6, 5}, {16, 16}} {
		p := drawn(&d, sides[0], sides[1])
		before := slices.Clone(p.Pix)
		all, _ := skin.Halves(p)
		if !slices.Equal(p.Pix, before) {
			t.Error("Halves wrote into the picture")
		}
		var kept [][]byte
		for _, q := range all {
			kept = append(kept, slices.Clone(q.Pix))
		}
		wipe(p.Pix)
		for i := range all {
			if !slices.Equal(all[i].Pix, kept[i]) {
				t.Errorf("the picture %d changed with another", i)
			}
			wipe(all[i].Pix)
		}
	}
}
