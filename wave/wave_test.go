package wave_test

import (
	"fmt"
	"math"
	"math/cmplx"
	"slices"
	"testing"

	"rayhouse/api"
	"rayhouse/wave"
)

var (
	minus0 = math.Copysign(0, -1)
	inf    = math.Inf(1)
	none   = math.NaN()
	beyond = math.Nextafter(api.MaxReach, inf)
	least  = math.SmallestNonzeroFloat64
)

// die: numbers that look drawn, the same each time.
type die uint64

func (d *die) n(most int) int {
	*d = *d*6364136223846793005 + 1442695040888963407
	return int(uint64(*d>>33) % uint64(most))
}

// float: from -MaxReach to MaxReach: great and small, whole and not, and those at which something changes.
func (d *die) float() float64 {
	switch d.n(8) {
	case 0:
		return []float64{0, minus0, api.MaxReach, -api.MaxReach, least, -least, 1e-310, 1}[d.n(8)]
	case 1:
		return float64(d.n(2001) - 1000)
	}
	x := (float64(d.n(1<<30)) + float64(d.n(1<<30))/(1<<30)) / (1 << 30) * api.MaxReach
	if d.n(2) == 0 {
		x = -x
	}
	return x / math.Pow(10, float64(d.n(12)))
}

func (d *die) row(n int) []complex128 {
	x := make([]complex128, n)
	for i := range x {
		x[i] = complex(d.float(), d.float())
	}
	return x
}

// values: numbers from 0 to 255.
func (d *die) values(n int) []int {
	l := make([]int, n)
	for i := range l {
		l[i] = d.n(256)
	}
	return l
}

// lengths: those that a row may have.
func lengths() []int {
	return []int{1, 2, 4, 8, 16, 32, 64}
}

// wrongLengths: those that it may not have.
func wrongLengths() []int {
	l := []int{0, 2 * api.MaxWave, 4 * api.MaxWave, 1000, 1 << 16}
	for n := 1; n <= 2*api.MaxWave+1; n++ {
		if n > api.MaxWave || !slices.Contains(lengths(), n) {
			l = append(l, n)
		}
	}
	return l
}

// filled: n times the same number.
func filled[T any](n int, v T) []T {
	l := make([]T, n)
	for i := range l {
		l[i] = v
	}
	return l
}

// with: a copy, in which one place is another number.
func with[T any](l []T, at int, v T) []T {
	l = slices.Clone(l)
	l[at] = v
	return l
}

func sameBits(a, b float64) bool {
	return math.Float64bits(a) == math.Float64bits(b)
}

func wantPairs(t *testing.T, what string, x, got []complex128, e api.Errno, want []pair) {
	t.Helper()
	if e != api.OK || len(got) != len(want) {
		t.Fatalf("%s of %v: %v, %d", what, x, got, e)
	}
	for i, z := range got {
		if !sameBits(real(z), want[i].first) || !sameBits(imag(z), want[i].second) {
			t.Fatalf("%s of %v: at %d %v, not %v", what, x, i, z, want[i])
		}
	}
}

// holdWaves: Forth and Back, bit by bit, against the second working.
func holdWaves(t *testing.T, x []complex128) {
	t.Helper()
	f, e := wave.Forth(x)
	wantPairs(t, "Forth", x, f, e, secondForth(x))
	b, e := wave.Back(x)
	wantPairs(t, "Back", x, b, e, secondBack(x))
}

// A1

func TestMayOfLengths(t *testing.T) {
	for _, n := range lengths() {
		for _, z := range []complex128{0, 1, complex(-3, 0.5)} {
			if e := wave.May(filled(n, z)); e != api.OK {
				t.Errorf("May of %d numbers: %d", n, e)
			}
		}
	}
	for _, n := range wrongLengths() {
		for _, v := range []float64{0, 1, beyond, inf, none} {
			x := filled(n, complex(v, v))
			if e := wave.May(x); e != api.ErrCount {
				t.Errorf("May of %d times %v: %d", n, v, e)
			}
		}
	}
	if e := wave.May(nil); e != api.ErrCount {
		t.Errorf("May of none: %d", e)
	}
}

func TestMayOfReach(t *testing.T) {
	yes := []float64{0, minus0, least, -least, 1e-310, 1, -1, api.MaxReach, -api.MaxReach, math.Nextafter(api.MaxReach, 0)}
	no := []float64{beyond, -beyond, 2 * api.MaxReach, math.MaxFloat64, -math.MaxFloat64, inf, -inf, none}
	for _, n := range lengths() {
		x := filled(n, complex(api.MaxReach, -api.MaxReach))
		for at := range n {
			for _, v := range yes {
				for _, z := range []complex128{complex(v, 0), complex(0, v), complex(v, v)} {
					if e := wave.May(with(x, at, z)); e != api.OK {
						t.Errorf("May with %v at %d of %d: %d", z, at, n, e)
					}
				}
			}
			for _, v := range no {
				for _, z := range []complex128{complex(v, 0), complex(0, v), complex(v, v)} {
					if e := wave.May(with(x, at, z)); e != api.ErrReach {
						t.Errorf("May with %v at %d of %d: %d", z, at, n, e)
					}
				}
			}
		}
	}
}

// A2, A3

func TestWavesOfTheDocument(t *testing.T) {
	f, e := wave.Forth([]complex128{1, 2, 3, 4})
	if want := []complex128{10, complex(-2, 2), -2, complex(-2, -2)}; e != api.OK || !slices.Equal(f, want) {
		t.Errorf("%v, %d, not %v", f, e, want)
	}
	b, e := wave.Back(f)
	if want := []complex128{1, 2, 3, 4}; e != api.OK || !slices.Equal(b, want) {
		t.Errorf("%v, %d, not %v", b, e, want)
	}
	// Backward the other way about, and a quarter of it.
	b, e = wave.Back([]complex128{1, 2, 3, 4})
	if want := []complex128{2.5, complex(-0.5, -0.5), -0.5, complex(-0.5, 0.5)}; e != api.OK || !slices.Equal(b, want) {
		t.Errorf("%v, %d, not %v", b, e, want)
	}
}

func TestWavesOfOneAndOfTwo(t *testing.T) {
	f, e := wave.Forth([]complex128{complex(0.1, minus0)})
	wantPairs(t, "Forth", nil, f, e, []pair{{0.1, minus0}})
	b, e := wave.Back([]complex128{complex(minus0, -0.3)})
	wantPairs(t, "Back", nil, b, e, []pair{{minus0, -0.3}})
	f, e = wave.Forth([]complex128{complex(5, 1), complex(2, -3)})
	wantPairs(t, "Forth", nil, f, e, []pair{{7, -2}, {3, 4}})
	b, e = wave.Back([]complex128{complex(5, 1), complex(2, -3)})
	wantPairs(t, "Back", nil, b, e, []pair{{3.5, -1}, {1.5, 2}})
}

// Of a 1 at the second place alone the waves are what p was: the root again and again.
func TestRoots(t *testing.T) {
	for _, n := range lengths()[1:] {
		f, e := wave.Forth(with(make([]complex128, n), 1, 1))
		want := powers(n, false)
		if e != api.OK {
			t.Fatal(e)
		}
		for k, p := range want {
			if f[k] != complex(p.first, p.second) || f[k+n/2] != complex(-p.first, -p.second) {
				t.Errorf("root of %d, %d times: %v, %v, not %v", n, k, f[k], f[k+n/2], p)
			}
			if s, c := math.Sincos(2 * math.Pi * float64(k) / float64(n)); math.Abs(p.first-c)+math.Abs(p.second+s) > 1e-14 {
				t.Errorf("root of %d, %d times: %v, %v, not %v, %v", n, k, p.first, p.second, c, -s)
			}
		}
	}
}

func TestWavesHeldAgainstASecondWorking(t *testing.T) {
	d := die(1)
	for _, n := range lengths() {
		for range 400 / n {
			holdWaves(t, d.row(n))
		}
		ones, most := make([]complex128, n), filled(n, complex(api.MaxReach, -api.MaxReach))
		for i := range ones {
			ones[i] = complex(float64(i+1), float64(-i))
		}
		holdWaves(t, ones)
		holdWaves(t, most)
		holdWaves(t, filled(n, complex(-api.MaxReach, -api.MaxReach)))
		holdWaves(t, filled(n, complex(least, -least)))
	}
}

// The places of a row, one by one: with a number there alone no other one hides it.
func TestWavesOfOnePlace(t *testing.T) {
	for _, n := range lengths() {
		for at := range n {
			if n == api.MaxWave && at%5 != 3 {
				continue
			}
			holdWaves(t, with(make([]complex128, n), at, complex(0.1, -0.7)))
		}
	}
}

// Noughts with a sign: a formula says what becomes of it.
func TestWavesOfNoughts(t *testing.T) {
	noughts := []complex128{0, complex(minus0, 0), complex(0, minus0), complex(minus0, minus0)}
	for _, z := range noughts {
		for _, n := range lengths() {
			holdWaves(t, filled(n, z))
		}
		for _, y := range noughts {
			holdWaves(t, []complex128{z, y})
			for _, x := range noughts {
				holdWaves(t, []complex128{z, y, x, 1})
				holdWaves(t, []complex128{1, z, y, x})
			}
		}
	}
	d := die(2)
	for range 40 {
		x := make([]complex128, 1<<d.n(6))
		for i := range x {
			x[i] = noughts[d.n(4)]
		}
		holdWaves(t, x)
	}
	// 1 times -0 less 0 times 0 stays -0; less 0 times -1 it is 0.
	f, e := wave.Forth([]complex128{complex(minus0, minus0), complex(minus0, 1)})
	wantPairs(t, "Forth", nil, f, e, []pair{{minus0, 1}, {0, -1}})
	f, e = wave.Forth([]complex128{complex(minus0, minus0), complex(minus0, -1)})
	wantPairs(t, "Forth", nil, f, e, []pair{{0, -1}, {minus0, 1}})
}

// What waves are: sums of all numbers, each turned as often as its place and the wave's say.
func TestWavesAreSums(t *testing.T) {
	d := die(3)
	for _, n := range lengths() {
		x := d.row(n)
		f, _ := wave.Forth(x)
		b, _ := wave.Back(x)
		for k := range n {
			var forth, back complex128
			for j, z := range x {
				turn := 2 * math.Pi * float64(j*k%n) / float64(n)
				forth += z * cmplx.Rect(1, -turn)
				back += z * cmplx.Rect(1, turn) / complex(float64(n), 0)
			}
			if cmplx.Abs(f[k]-forth) > 1e-5 || cmplx.Abs(b[k]-back) > 1e-5 {
				t.Errorf("%d of %d: %v and %v, not %v and %v", k, n, f[k], b[k], forth, back)
			}
		}
	}
}

// whole: rows of whole numbers, small and great ones.
func (d *die) whole(n int) []complex128 {
	x := make([]complex128, n)
	for i := range x {
		m := 1 + d.n([]int{3, 100, 125000}[d.n(3)])
		x[i] = complex(float64(d.n(2*m+1)-m), float64(d.n(2*m+1)-m))
	}
	return x
}

func TestWholeNumbersThereAndBack(t *testing.T) {
	d := die(4)
	for range 3000 {
		x := d.whole(1 << d.n(3))
		f, e := wave.Forth(x)
		if e != api.OK {
			t.Fatalf("%v: %d", x, e)
		}
		if b, e := wave.Back(f); e != api.OK || !slices.Equal(b, x) {
			t.Fatalf("%v: there and back %v, %d", x, b, e)
		}
		b, e := wave.Back(x)
		if e != api.OK {
			t.Fatalf("%v: %d", x, e)
		}
		if f, e := wave.Forth(b); e != api.OK || !slices.Equal(f, x) {
			t.Fatalf("%v: back and there %v, %d", x, f, e)
		}
	}
	for _, n := range []int{1, 2, 4} {
		x := filled(n, complex(api.MaxReach/4, -api.MaxReach/4))
		f, _ := wave.Forth(x)
		if b, e := wave.Back(f); e != api.OK || !slices.Equal(b, x) {
			t.Errorf("%v: there and back %v, %d", x, b, e)
		}
	}
}

func TestLongRowsThereAndBack(t *testing.T) {
	d := die(5)
	for _, n := range lengths() {
		x := d.row(n)
		for i := range x {
			x[i] /= api.MaxWave
		}
		f, _ := wave.Forth(x)
		b, e := wave.Back(f)
		if e != api.OK {
			t.Fatalf("%d numbers: %d", n, e)
		}
		for i := range x {
			if cmplx.Abs(b[i]-x[i]) > 1e-6 {
				t.Errorf("%d of %d: %v, not %v", i, n, b[i], x[i])
			}
		}
	}
}

func TestForthAndBackRefuse(t *testing.T) {
	hold := func(x []complex128, want api.Errno) {
		t.Helper()
		if f, e := wave.Forth(x); e != want || len(f) != 0 {
			t.Errorf("Forth of %d: %v, %d, not %d", len(x), f, e, want)
		}
		if b, e := wave.Back(x); e != want || len(b) != 0 {
			t.Errorf("Back of %d: %v, %d, not %d", len(x), b, e, want)
		}
	}
	hold(nil, api.ErrCount)
	for _, n := range wrongLengths() {
		hold(make([]complex128, n), api.ErrCount)
		hold(filled(n, complex(inf, none)), api.ErrCount)
	}
	for _, n := range lengths() {
		for _, at := range []int{0, n / 2, n - 1} {
			for _, v := range []float64{beyond, -beyond, math.MaxFloat64, inf, -inf, none} {
				hold(with(make([]complex128, n), at, complex(v, 0)), api.ErrReach)
				hold(with(make([]complex128, n), at, complex(0, v)), api.ErrReach)
			}
		}
	}
	// The waves of a row that may be needn't be one that may: each is asked by itself.
	f, e := wave.Forth(filled(2, complex(api.MaxReach, 0)))
	if e != api.OK || f[0] != 2*api.MaxReach {
		t.Errorf("%v, %d", f, e)
	}
	hold(f, api.ErrReach)
}

// A4

func holdRound(t *testing.T, row, weights, want []int) {
	t.Helper()
	if got, e := wave.Round(row, weights); e != api.OK || !slices.Equal(got, want) {
		t.Errorf("Round of %v by %v: %v, %d, not %v", row, weights, got, e, want)
	}
}

func TestRoundOfTheDocument(t *testing.T) {
	holdRound(t, []int{1, 2, 3, 4}, []int{2, 1, 0, 1}, []int{8, 8, 12, 12})
	holdRound(t, []int{2, 1, 0, 1}, []int{1, 2, 3, 4}, []int{8, 8, 12, 12})
	holdRound(t, []int{7}, []int{9}, []int{63})
	holdRound(t, []int{3, 5}, []int{10, 1}, []int{35, 53})
	holdRound(t, []int{1, 0, 0, 0}, []int{1, 2, 3, 4}, []int{1, 2, 3, 4})
	holdRound(t, []int{0, 1, 0, 0}, []int{1, 2, 3, 4}, []int{4, 1, 2, 3})
}

func TestRoundHeldAgainstWholeNumbers(t *testing.T) {
	d := die(6)
	for _, n := range lengths() {
		none, all := make([]int, n), filled(n, 255)
		holdRound(t, none, none, none)
		holdRound(t, all, none, none)
		holdRound(t, none, all, none)
		holdRound(t, all, all, filled(n, 255*255*n))
		for range 200 {
			row, weights := d.values(n), d.values(n)
			holdRound(t, row, weights, summed(row, weights))
			holdRound(t, row, all, summed(row, all))
			holdRound(t, none, weights, none)
		}
		for i := range n {
			for _, v := range []int{1, 255} {
				row, weights := d.values(n), with(none, i, v)
				holdRound(t, row, weights, summed(row, weights))
				holdRound(t, weights, row, summed(row, weights))
			}
		}
	}
}

func TestRoundRefusesLengths(t *testing.T) {
	hold := func(row, weights []int) {
		t.Helper()
		if got, e := wave.Round(row, weights); e != api.ErrCount || len(got) != 0 {
			t.Errorf("Round of %d by %d: %v, %d", len(row), len(weights), got, e)
		}
	}
	hold(nil, nil)
	for _, n := range wrongLengths() {
		for _, v := range []int{0, 1, -1, 256} {
			hold(filled(n, v), filled(n, v))
			for _, m := range []int{0, 1, 4, api.MaxWave} {
				hold(filled(n, v), filled(m, 0))
				hold(filled(m, 0), filled(n, v))
			}
		}
	}
	for _, n := range lengths() {
		hold(filled(n, 1), nil)
		hold(nil, filled(n, 1))
		for _, m := range lengths() {
			if m != n {
				hold(filled(n, 1), filled(m, 1))
				hold(filled(n, 256), filled(m, -1))
			}
		}
	}
}

func TestRoundRefusesValues(t *testing.T) {
	d := die(7)
	for _, n := range lengths() {
		for at := range n {
			row, weights := d.values(n), d.values(n)
			for _, v := range []int{0, 255} {
				r, w := with(row, at, v), with(weights, at, v)
				holdRound(t, r, w, summed(r, w))
			}
			for _, v := range []int{-1, 256, 257, -255, -256, 1 << 32, 1<<32 + 7, math.MaxInt, math.MinInt} {
				bad, worse := with(row, at, v), with(weights, at, v)
				for _, l := range [][2][]int{{bad, weights}, {row, worse}, {bad, worse}, {make([]int, n), worse}, {bad, make([]int, n)}} {
					if got, e := wave.Round(l[0], l[1]); e != api.ErrValue || len(got) != 0 {
						t.Errorf("Round of %v by %v: %v, %d", l[0], l[1], got, e)
					}
				}
			}
		}
	}
}

// X2

// holdFresh: what a call answers has none of the memory of what it was given, nor of what it answered ahead; and what it was given stays as it was.
func holdFresh[In, Out any](t *testing.T, what string, in, other []In, wiped In, gone Out, call func() []Out) {
	t.Helper()
	before := fmt.Sprint(in, other)
	first, second := call(), call()
	want := fmt.Sprint(first)
	if fmt.Sprint(in, other) != before {
		t.Errorf("%s writes into what it is given", what)
	}
	room := second[:cap(second)]
	for i := range room {
		room[i] = gone
	}
	if fmt.Sprint(in, other) != before || fmt.Sprint(first) != want || fmt.Sprint(call()) != want {
		t.Errorf("%s: what came out is shared", what)
	}
	for _, l := range [][]In{in[:cap(in)], other[:cap(other)]} {
		for i := range l {
			l[i] = wiped
		}
	}
	if fmt.Sprint(first) != want {
		t.Errorf("%s: what came out hangs on what was given", what)
	}
}

func TestAnswersAreFresh(t *testing.T) {
	d := die(8)
	for _, n := range lengths() {
		x, y := d.row(n), d.row(n)
		holdFresh(t, "Forth", x, nil, 77, 88, func() []complex128 { f, _ := wave.Forth(x); return f })
		holdFresh(t, "Back", y, nil, 77, 88, func() []complex128 { b, _ := wave.Back(y); return b })
		row, weights := d.values(n), d.values(n)
		holdFresh(t, "Round", row, weights, 77, 88, func() []int { r, _ := wave.Round(row, weights); return r })
		same := d.values(n)
		holdFresh(t, "Round by itself", same, same, 77, 88, func() []int { r, _ := wave.Round(same, same); return r })
	}
}

// A row's room beyond its end is none of its numbers.
func TestRoomBeyondARow(t *testing.T) {
	long := filled(api.MaxWave, complex(none, inf))
	copy(long, []complex128{1, 2, 3, 4})
	if f, e := wave.Forth(long[:4]); e != api.OK || f[0] != 10 {
		t.Errorf("Forth: %v, %d", f, e)
	}
	if long[3] != 4 || !math.IsNaN(real(long[4])) {
		t.Error("what lies beyond a row is written into")
	}
	numbers := filled(8, 999)
	copy(numbers, []int{1, 2})
	if r, e := wave.Round(numbers[:2], numbers[:2]); e != api.OK || !slices.Equal(r, []int{5, 4}) || numbers[2] != 999 {
		t.Errorf("Round: %v, %d, %v", r, e, numbers)
	}
}
