package chance_test

import (
	"math"
	"strconv"
	"testing"

	"rayhouse/api"
	"rayhouse/chance"
)

// die: numbers that look drawn, the same each time.
type die uint64

func (d *die) n(most int) int {
	*d = *d*6364136223846793005 + 1442695040888963407
	return int(uint64(*d>>33) % uint64(most))
}

const greatest = math.MaxUint32

// C1

// mixedByHand: the document's steps, one by one, in numbers that don't wrap; what is beyond 32 bits is taken off after each.
func mixedByHand(a, b, c uint32) uint32 {
	const all = uint64(1) << 32
	h := uint64(a) * 2654435761 % all
	h ^= uint64(b) * 2246822519 % all
	h ^= uint64(c) * 3266489917 % all
	h ^= h / 32768
	h = h * 2246822507 % all
	h ^= h / 32768
	h = h * 3266489909 % all
	h ^= h / 65536
	return uint32(h)
}

func TestMixOfKnownNumbers(t *testing.T) {
	for _, c := range []struct{ a, b, c, want uint32 }{
		{1, 2, 3, 2821906797},
		{3, 2, 1, 3213013266},
		{0, 0, 0, 0},
		{1, 0, 0, 3432540245},
		{0, 1, 0, 4257681665},
		{0, 0, 1, 1292962600},
		{greatest, 0, 0, 154975150},
		{0, greatest, 0, 2857210271},
		{0, 0, greatest, 1772809685},
		{greatest, greatest, greatest, 3019938190},
		{1 << 31, 1 << 31, 1 << 31, 809202805},
		{123456789, 987654321, 3141592653, 4052865482},
	} {
		if got := chance.Mix(c.a, c.b, c.c); got != c.want {
			t.Errorf("Mix(%d, %d, %d): %d, not %d", c.a, c.b, c.c, got, c.want)
		}
	}
}

func TestMixStepByStep(t *testing.T) {
	d := die(1)
	draw := func() uint32 { return uint32(d.n(1<<16))<<16 | uint32(d.n(1<<16)) }
	for range 20000 {
		a, b, c := draw(), draw(), draw()
		if got, want := chance.Mix(a, b, c), mixedByHand(a, b, c); got != want {
			t.Fatalf("Mix(%d, %d, %d): %d, not %d", a, b, c, got, want)
		}
	}
	for _, a := range []uint32{0, 1, 2, 32767, 32768, 65535, 65536, 1<<31 - 1, 1 << 31, greatest - 1, greatest} {
		if got, want := chance.Mix(a, greatest-a, a), mixedByHand(a, greatest-a, a); got != want {
			t.Errorf("Mix(%d, ..): %d, not %d", a, got, want)
		}
	}
}

// C2

func TestMirroredOfKnownNumbers(t *testing.T) {
	for _, c := range []struct{ base, n, num, den int }{
		{2, 0, 0, 1}, {16, 0, 0, 1}, {3, 0, 0, 1},
		{2, 1, 1, 2}, {2, 2, 1, 4}, {2, 3, 3, 4}, {2, 4, 1, 8}, {2, 6, 3, 8}, {2, 7, 7, 8}, {2, 8, 1, 16},
		{3, 1, 1, 3}, {3, 2, 2, 3}, {3, 3, 1, 9}, {3, 5, 7, 9}, {3, 8, 8, 9}, {3, 9, 1, 27},
		{10, 9, 9, 10}, {10, 10, 1, 100}, {10, 99, 99, 100}, {10, 100, 1, 1000}, {10, 1234567, 7654321, 10000000}, {10, 1200, 21, 10000},
		{16, 15, 15, 16}, {16, 16, 1, 256}, {16, 0xabcdef, 0xfedcba, 1 << 24},
		{2, 1<<24 - 1, 1<<24 - 1, 1 << 24}, {16, 1<<24 - 1, 1<<24 - 1, 1 << 24},
		{2, 1 << 23, 1, 1 << 24}, {2, 1<<23 - 1, 1<<23 - 1, 1 << 23},
		{16, 1 << 20, 1, 1 << 24}, {16, 1<<20 - 1, 1<<20 - 1, 1 << 20},
		{15, 15 * 15 * 15 * 15 * 15 * 15, 1, 15 * 15 * 15 * 15 * 15 * 15 * 15},
	} {
		num, den, e := chance.Mirrored(c.base, c.n)
		if num != c.num || den != c.den || e != api.OK {
			t.Errorf("Mirrored(%d, %d): %d of %d (%d), not %d of %d", c.base, c.n, num, den, e, c.num, c.den)
		}
	}
}

// mirroredByText: n is written to the base, and read from its end.
func mirroredByText(base, n int) (num, den int) {
	if n == 0 {
		return 0, 1
	}
	digits := []byte(strconv.FormatInt(int64(n), base))
	den = 1
	turned := ""
	for i := range digits {
		turned += string(digits[len(digits)-1-i])
		den *= base
	}
	read, _ := strconv.ParseInt(turned, base, 64)
	return int(read), den
}

func TestMirroredByText(t *testing.T) {
	d := die(2)
	hold := func(base, n int) {
		num, den, e := chance.Mirrored(base, n)
		wantNum, wantDen := mirroredByText(base, n)
		if num != wantNum || den != wantDen || e != api.OK {
			t.Fatalf("Mirrored(%d, %d): %d of %d (%d), not %d of %d", base, n, num, den, e, wantNum, wantDen)
		}
	}
	for base := 2; base <= 16; base++ {
		for range 500 {
			hold(base, d.n(1<<24))
		}
		for power := 1; power < 1<<24; power *= base {
			hold(base, power-1)
			hold(base, power)
		}
		hold(base, 1<<24-1)
	}
}

func TestMirroredIsSpreadEvenly(t *testing.T) {
	for _, base := range []int{2, 3, 5, 10, 16} {
		for count := 1; count <= 5000; count *= base {
			met := make([]int, count)
			for n := range count {
				num, den, _ := chance.Mirrored(base, n)
				met[num*count/den]++
			}
			for part, times := range met {
				if times != 1 {
					t.Fatalf("base %d: of the first %d numbers %d are in the part %d", base, count, times, part)
				}
			}
		}
	}
}

func TestMirroredRefuses(t *testing.T) {
	for _, c := range [][2]int{
		{1, 5}, {0, 5}, {-1, 5}, {-2, 5}, {17, 5}, {18, 5}, {math.MaxInt, 5}, {math.MinInt, 5}, {1 << 32, 5}, {1<<32 + 2, 5},
		{2, -1}, {16, -1}, {2, 1 << 24}, {16, 1 << 24}, {3, 1<<24 + 1}, {2, math.MaxInt}, {2, math.MinInt}, {2, 1 << 32},
		{1, 0}, {17, 0}, {1, -1}, {17, 1 << 24},
	} {
		if num, den, e := chance.Mirrored(c[0], c[1]); num != 0 || den != 0 || e != api.ErrValue {
			t.Errorf("Mirrored(%d, %d): %d of %d, %d", c[0], c[1], num, den, e)
		}
	}
}

// C3

func TestShotOfKnownNumbers(t *testing.T) {
	for _, c := range []struct{ x, y, k, u, v int }{
		{3, 4, 5, 5502, 26597},
		{0, 0, 0, int(mixedByHand(0, 0, 77) & 65535), int(mixedByHand(0, 0, 77) >> 16)},
	} {
		u, v, e := chance.Shot(c.x, c.y, c.k)
		if u != c.u || v != c.v || e != api.OK {
			t.Errorf("Shot(%d, %d, %d): %d, %d (%d), not %d, %d", c.x, c.y, c.k, u, v, e, c.u, c.v)
		}
	}
}

func TestShotOfEveryPixel(t *testing.T) {
	round := 0
	for x := range api.MaxSide {
		for y := range api.MaxSide {
			h := int(mixedByHand(uint32(x), uint32(y), 77))
			for k := range api.MaxShots {
				num2, den2 := mirroredByText(2, k)
				num3, den3 := mirroredByText(3, k)
				wantU, wantV := num2*65536/den2+h%65536, num3*65536/den3+h/65536
				if wantU > 65535 || wantV > 65535 {
					round++
				}
				u, v, e := chance.Shot(x, y, k)
				if u != wantU%65536 || v != wantV%65536 || e != api.OK {
					t.Fatalf("Shot(%d, %d, %d): %d, %d (%d), not %d, %d", x, y, k, u, v, e, wantU%65536, wantV%65536)
				}
			}
		}
	}
	if round < 1000 {
		t.Errorf("only %d shots go round: the test tells little", round)
	}
}

// A pixel's shots along a row differ by at least a sixteenth of the pixel, round and round.
func TestShotsAreSpreadEvenly(t *testing.T) {
	for x := range 20 {
		first, _, _ := chance.Shot(x, 7, 0)
		met := [16]int{}
		for k := range 16 {
			u, _, _ := chance.Shot(x, 7, k)
			met[(u-first+65536)%65536/4096]++
		}
		for part, times := range met {
			if times != 1 {
				t.Errorf("pixel %d, 7: %d shots in the part %d", x, times, part)
			}
		}
	}
}

func TestShotAtTheEdges(t *testing.T) {
	const side, shots = api.MaxSide - 1, api.MaxShots - 1
	for _, c := range [][3]int{{0, 0, 0}, {side, 0, 0}, {0, side, 0}, {0, 0, shots}, {side, side, shots}} {
		if _, _, e := chance.Shot(c[0], c[1], c[2]); e != api.OK {
			t.Errorf("Shot(%v): %d", c, e)
		}
	}
	for _, c := range [][3]int{
		{-1, 0, 0}, {0, -1, 0}, {0, 0, -1}, {api.MaxSide, 0, 0}, {0, api.MaxSide, 0}, {0, 0, api.MaxShots},
		{math.MinInt, 0, 0}, {0, math.MaxInt, 0}, {0, 0, 1 << 32}, {1 << 32, 0, 0}, {0, 1 << 32, 0}, {-1, -1, -1},
	} {
		if u, v, e := chance.Shot(c[0], c[1], c[2]); u != 0 || v != 0 || e != api.ErrValue {
			t.Errorf("Shot(%v): %d, %d, %d", c, u, v, e)
		}
	}
}

// C4

// downward: n through 256, as floats tell it.
func downward(n int) int {
	return int(math.Floor(float64(n) / 256))
}

func cornerByHand(at [3]int) int {
	return int(mixedByHand(uint32(int32(at[0])), uint32(int32(at[1])), uint32(int32(at[2]))) & 255)
}

// noiseByHand: axis by axis, the last one first; before it come the corners that are chosen so far.
func noiseByHand(n [3]int, at [3]int, axis int) int {
	if axis < 0 {
		return cornerByHand(at)
	}
	at[axis] = downward(n[axis])
	t := n[axis] - 256*at[axis]
	a := noiseByHand(n, at, axis-1)
	at[axis]++
	b := noiseByHand(n, at, axis-1)
	return (a*(256-t) + b*t) / 256
}

func holdNoise(t *testing.T, x, y, z int) {
	t.Helper()
	got, e := chance.Noise(x, y, z)
	if want := noiseByHand([3]int{x, y, z}, [3]int{}, 2); got != want || e != api.OK {
		t.Fatalf("Noise(%d, %d, %d): %d (%d), not %d", x, y, z, got, e, want)
	}
}

func TestNoiseOfKnownNumbers(t *testing.T) {
	if got, e := chance.Noise(100, 200, 300); got != 133 || e != api.OK {
		t.Errorf("Noise(100, 200, 300): %d, %d", got, e)
	}
	if got, e := chance.Noise(0, 0, 0); got != 0 || e != api.OK {
		t.Errorf("Noise(0, 0, 0): %d, %d", got, e)
	}
}

func TestNoiseAtCorners(t *testing.T) {
	for i := -3; i <= 3; i++ {
		for j := -3; j <= 3; j++ {
			for k := -3; k <= 3; k++ {
				got, _ := chance.Noise(256*i, 256*j, 256*k)
				if want := cornerByHand([3]int{i, j, k}); got != want {
					t.Errorf("the corner %d, %d, %d: %d, not %d", i, j, k, got, want)
				}
			}
		}
	}
}

// Between two corners, along one axis, it is their blend, whichever cell is asked.
func TestNoiseAlongSides(t *testing.T) {
	for axis := range 3 {
		for i := -2; i <= 1; i++ {
			var from, to [3]int
			from[axis], to[axis] = i, i+1
			a, b := cornerByHand(from), cornerByHand(to)
			for part := range 257 {
				var at [3]int
				at[axis] = 256*i + part
				got, _ := chance.Noise(at[0], at[1], at[2])
				if want := (a*(256-part) + b*part) / 256; got != want {
					t.Fatalf("Noise(%v): %d, not %d", at, got, want)
				}
			}
		}
	}
}

func TestNoiseByHand(t *testing.T) {
	d := die(4)
	for range 20000 {
		holdNoise(t, d.n(20001)-10000, d.n(20001)-10000, d.n(20001)-10000)
	}
	for range 5000 {
		holdNoise(t, d.n(1<<31)-1<<30, d.n(1<<31)-1<<30, d.n(1<<31)-1<<30)
	}
	for _, x := range []int{-257, -256, -255, -1, 0, 1, 255, 256, 257} {
		for _, y := range []int{-257, -256, -255, -1, 0, 1, 255, 256, 257} {
			holdNoise(t, x, y, 128)
			holdNoise(t, 128, x, y)
			holdNoise(t, y, 128, x)
		}
	}
}

func TestNoiseAtTheEdges(t *testing.T) {
	const far = 1 << 30
	for _, n := range []int{-far, -far + 1, -far + 255, far - 1, far} {
		holdNoise(t, n, 3, 5)
		holdNoise(t, 3, n, 5)
		holdNoise(t, 3, 5, n)
		holdNoise(t, n, n, n)
		holdNoise(t, n, -n, n)
	}
	for _, n := range []int{-far - 1, far + 1, math.MinInt, math.MaxInt, 1 << 32, -1 << 32} {
		for _, c := range [][3]int{{n, 3, 5}, {3, n, 5}, {3, 5, n}, {n, n, n}} {
			if got, e := chance.Noise(c[0], c[1], c[2]); got != 0 || e != api.ErrReach {
				t.Errorf("Noise(%v): %d, %d", c, got, e)
			}
		}
	}
}
