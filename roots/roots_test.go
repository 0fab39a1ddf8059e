package roots_test

import (
	"math/big"
	"slices"
	"testing"

	"rayhouse/api"
	"rayhouse/roots"
)

const (
	most = 1 << 50 // the bound of lo and hi
	fine = 65536
)

type question struct {
	what   string
	p      []int
	lo, hi int
	want   []int
}

func wantRoots(t *testing.T, l []question) {
	t.Helper()
	for _, q := range l {
		before := slices.Clone(q.p)
		got, e := roots.Roots(q.p, q.lo, q.hi)
		if e != api.OK || !slices.Equal(got, q.want) {
			t.Errorf("%s: Roots of %v from %d to %d: %v, %d, not %v", q.what, q.p, q.lo, q.hi, got, e, q.want)
		}
		if !slices.Equal(before, q.p) {
			t.Errorf("%s: the coefficients were changed", q.what)
		}
	}
}

// R1

func TestPlaces(t *testing.T) {
	wantRoots(t, []question{
		{"3 t - 1", []int{-1, 3}, -most, most, []int{21845}},
		{"3 t + 1: cut off downward", []int{1, 3}, -most, most, []int{-21846}},
		{"65536 t + 1: nothing is cut off", []int{1, fine}, -most, most, []int{-1}},
		{"a root just below 0", []int{1, 1 << 31}, -most, most, []int{-1}},
		{"a root just above 0", []int{-1, 1 << 31}, -most, most, []int{0}},
		{"t t - 2", []int{-2, 0, 1}, -most, most, []int{-92682, 92681}},
		{"t t + 1", []int{1, 0, 1}, -most, most, nil},
		{"t t t - 1", []int{-1, 0, 0, 1}, -most, most, []int{fine}},
		{"t to the 4th - 16", []int{-16, 0, 0, 0, 1}, -most, most, []int{-2 * fine, 2 * fine}},
		{"1, 2, 3, 4", []int{24, -50, 35, -10, 1}, -most, most, []int{fine, 2 * fine, 3 * fine, 4 * fine}},
		{"1, 2, 3, 4, sign turned", []int{-24, 50, -35, 10, -1}, -most, most, []int{fine, 2 * fine, 3 * fine, 4 * fine}},
	})
}

func TestTheSameEverywhere(t *testing.T) {
	for _, p := range [][]int{nil, {}, {0}, {5}, {-5}, {0, 0}, {0, 0, 0, 0, 0}, {7, 0, 0, 0, 0}, {-api.MaxPoly, 0}} {
		wantRoots(t, []question{{"a number", p, -most, most, nil}, {"a number, at 0", p, 0, 0, nil}})
	}
}

func TestNoughtsAheadAndBehind(t *testing.T) {
	wantRoots(t, []question{
		{"behind", []int{-3, 2, 0, 0, 0}, -most, most, []int{98304}},
		{"ahead", []int{0, -3, 2}, -most, most, []int{0, 98304}},
		{"ahead, many times over", []int{0, 0, 0, -3, 2}, -most, most, []int{0, 98304}},
		{"both", []int{0, -3, 2, 0, 0}, -most, most, []int{0, 98304}},
		{"t", []int{0, 1}, -most, most, []int{0}},
		{"t to the 4th", []int{0, 0, 0, 0, -1}, -most, most, []int{0}},
	})
}

// A root counts once, however often it is there, and whether the sign turns there or not.
func TestManyTimesOver(t *testing.T) {
	wantRoots(t, []question{
		{"(t - 3) squared", []int{9, -6, 1}, -most, most, []int{3 * fine}},
		{"(t - 3) cubed", []int{-27, 27, -9, 1}, -most, most, []int{3 * fine}},
		{"(t - 3) to the 4th", []int{81, -108, 54, -12, 1}, -most, most, []int{3 * fine}},
		{"(3 t - 1) squared: between places", []int{1, -6, 9}, -most, most, []int{21845}},
		{"(3 t + 1) to the 4th", []int{1, 12, 54, 108, 81}, -most, most, []int{-21846}},
		{"(t t - 2) squared", []int{4, 0, -4, 0, 1}, -most, most, []int{-92682, 92681}},
		{"(t t + 2) squared", []int{4, 0, 4, 0, 1}, -most, most, nil},
		{"(t - 1) squared (t - 2)", []int{-2, 5, -4, 1}, -most, most, []int{fine, 2 * fine}},
		{"(t - 1) squared (t t + 1)", []int{1, -2, 2, -2, 1}, -most, most, []int{fine}},
		{"(t - 1) cubed (t - 2)", []int{2, -7, 9, -5, 1}, -most, most, []int{fine, 2 * fine}},
		{"(t - 1) squared, from it on", []int{1, -2, 1}, fine, most, []int{fine}},
		{"(t - 1) squared, up to it", []int{1, -2, 1}, -most, fine, []int{fine}},
		{"(t - 1) squared, there alone", []int{1, -2, 1}, fine, fine, []int{fine}},
		{"(t - 1) cubed, there alone", []int{-1, 3, -3, 1}, fine, fine, []int{fine}},
	})
}

// R2

func TestTwoOfOnePlace(t *testing.T) {
	wantRoots(t, []question{
		// (40000 t - 1) (50000 t - 1): 1.6384 and 1.31072 parts of Fine.
		{"two of one place", []int{1, -90000, 2000000000}, -most, most, []int{1, 1}},
		{"cut off between them by lo", []int{1, -90000, 2000000000}, 2, most, nil},
		{"cut off by hi, which both are beyond", []int{1, -90000, 2000000000}, -most, 1, nil},
		{"two of one place, below 0", []int{1, 90000, 2000000000}, -most, most, []int{-2, -2}},
		// (200 t - 1) (201 t - 1): 327.68 and 326.05.
		{"two places beside each other", []int{1, -401, 40200}, -most, most, []int{326, 327}},
		// 2 to the 29 times (t - 2) squared, less 1: some 2.8 parts of Fine to either side of 2.
		{"near each other", []int{1<<31 - 1, -(1 << 31), 1 << 29}, -most, most, []int{131069, 131074}},
		// 2 to the 29 times (t - 1) squared, and 1, 0, -1.
		{"just none", []int{1<<29 + 1, -(1 << 30), 1 << 29}, -most, most, nil},
		{"just one", []int{1 << 29, -(1 << 30), 1 << 29}, -most, most, []int{fine}},
		{"just two", []int{1<<29 - 1, -(1 << 30), 1 << 29}, -most, most, []int{65533, 65538}},
		// The same two, and 1 and -1.
		{"two of one place, among others", []int{-1, 90000, 1 - 2000000000, -90000, 2000000000}, -most, most, []int{-fine, 1, 1, fine}},
	})
}

func TestFromLoToHi(t *testing.T) {
	four := []int{24, -50, 35, -10, 1}
	wantRoots(t, []question{
		{"just at lo and at hi", four, 2 * fine, 3 * fine, []int{2 * fine, 3 * fine}},
		{"just within lo and hi", four, 2*fine + 1, 3*fine - 1, nil},
		{"one alone", four, 3 * fine, 3 * fine, []int{3 * fine}},
		{"none alone", four, 3*fine + 1, 3*fine + 1, nil},
		{"beyond hi, though its place is hi", []int{-1, 3}, 0, 21845, nil},
		{"its place and hi beyond it", []int{-1, 3}, 21845, 21846, []int{21845}},
		{"ahead of lo, though it is near", []int{-1, 3}, 21846, most, nil},
		{"below 0, hi just beyond it", []int{1, 3}, -most, -21845, []int{-21846}},
		{"below 0, hi ahead of it", []int{1, 3}, -most, -21846, nil},
		{"below 0, lo at its place", []int{1, 3}, -21846, 0, []int{-21846}},
		{"lo above hi", four, fine + 1, fine, nil},
		{"lo far above hi", four, 1<<63 - 1, -1 << 63, nil},
		{"lo far above, hi at its bound", four, 1<<63 - 1, most, nil},
		{"at the upper edge", []int{-(1 << 30), 1}, -most, 1 << 46, []int{1 << 46}},
		{"at the bounds", []int{0, -(1 << 31), 2}, -most, most, []int{0, 1 << 46}},
		{"as far as a root of whole numbers can be", []int{-api.MaxPoly, 1}, -most, most, []int{1 << 47}},
		{"at the lower edge", []int{api.MaxPoly, 1}, -(1 << 47), most, []int{-(1 << 47)}},
	})
}

func TestRefusedRoots(t *testing.T) {
	l := api.MaxPoly
	for _, c := range []struct {
		what   string
		p      []int
		lo, hi int
		want   api.Errno
	}{
		{"six coefficients", []int{-1, 1, 0, 0, 0, 0}, 0, 1, api.ErrLimit},
		{"six is told ahead of reach", []int{l + 1, 0, 0, 0, 0, 0}, -most - 1, 1, api.ErrLimit},
		{"first beyond", []int{l + 1, 1}, -most, most, api.ErrReach},
		{"first beyond, below 0", []int{-l - 1, 1}, -most, most, api.ErrReach},
		{"last beyond", []int{0, 1, 1, 1, l + 1}, -most, most, api.ErrReach},
		{"the least there is", []int{0, -1 << 63}, -most, most, api.ErrReach},
		{"lo beyond", []int{0, 1}, -most - 1, most, api.ErrReach},
		{"hi beyond", []int{0, 1}, -most, most + 1, api.ErrReach},
		{"lo beyond, hi below it", []int{0, 1}, -most - 1, -most - 2, api.ErrReach},
		{"both far beyond", []int{0, 1}, -1 << 63, 1<<63 - 1, api.ErrReach},
	} {
		if got, e := roots.Roots(c.p, c.lo, c.hi); e != c.want || len(got) != 0 {
			t.Errorf("%s: %v, %d, not %d", c.what, got, e, c.want)
		}
	}
	wantRoots(t, []question{
		{"coefficients at MaxPoly", []int{-l, l, l, l, l}, -most, most, []int{-84584, 33999}},
		{"coefficients at -MaxPoly", []int{-l, -l, -l, l, -l}, -most, most, nil},
	})
}

// X2: what comes out is the caller's.
func TestFreshMemory(t *testing.T) {
	p := []int{24, -50, 35, -10, 1}
	first, _ := roots.Roots(p, -most, most)
	for i := range first {
		first[i] = -7
	}
	wantRoots(t, []question{{"again", p, -most, most, []int{fine, 2 * fine, 3 * fine, 4 * fine}}})
}

// halves: the places of a t t + b t + c, by square roots of whole numbers: told in another way than the program does.
func halves(a, b, c int) []int {
	n := func(x int) *big.Int { return big.NewInt(int64(x)) }
	d := new(big.Int).Sub(new(big.Int).Mul(n(b), n(b)), new(big.Int).Mul(n(4), new(big.Int).Mul(n(a), n(c))))
	if a == 0 || d.Sign() < 0 {
		return nil
	}
	if a < 0 {
		a, b = -a, -b
	}
	scaled := new(big.Int).Mul(d, n(fine*fine))
	down := new(big.Int).Sqrt(scaled)
	up := new(big.Int).Set(down)
	if new(big.Int).Mul(down, down).Cmp(scaled) != 0 {
		up.Add(up, n(1))
	}
	// Cut off downward: whole numbers below the square root may be taken in its stead, above it where it is taken away.
	place := func(by *big.Int) int {
		return int(new(big.Int).Div(new(big.Int).Add(n(-b*fine), by), n(2*a)).Int64())
	}
	if d.Sign() == 0 {
		return []int{place(down)}
	}
	return []int{place(up.Neg(up)), place(down)}
}

func TestProductsOfTwo(t *testing.T) {
	n := uint64(5)
	die := func(m int) int {
		n = n*6364136223846793005 + 1442695040888963407
		return int(n>>33)%(2*m+1) - m
	}
	many := 0
	for k := range 1500 {
		m := []int{5, 60, 3000, 20000}[k%4]
		a, b, c := die(m), die(m), die(m)
		d, e, f := die(m), die(m), die(m)
		want := append(halves(a, b, c), halves(d, e, f)...)
		slices.Sort(want)
		if a == 0 || d == 0 || resultant(a, b, c, d, e, f) == 0 {
			continue
		}
		many += len(want)
		wantRoots(t, []question{{"a product", []int{c * f, b*f + c*e, a*f + b*e + c*d, a*e + b*d, a * d}, -most, most, want}})
	}
	if many < 500 {
		t.Errorf("only %d roots", many)
	}
}

// resultant: 0, if both have a root in common.
func resultant(a, b, c, d, e, f int) int {
	x := new(big.Int).Sub(big.NewInt(int64(a*f)), big.NewInt(int64(c*d)))
	y := new(big.Int).Mul(big.NewInt(int64(a*e-b*d)), big.NewInt(int64(b*f-c*e)))
	return x.Mul(x, x).Cmp(y)
}

// R3

type ring struct {
	what             string
	o, d             [3]int
	axis, wide, thin int
	lo, hi           int
	want             []int
}

func wantRings(t *testing.T, l []ring) {
	t.Helper()
	for _, r := range l {
		got, e := roots.Ring(r.o, r.d, r.axis, r.wide, r.thin, r.lo, r.hi)
		if e != api.OK || !slices.Equal(got, r.want) {
			t.Errorf("%s: %v, %d, not %v", r.what, got, e, r.want)
		}
	}
}

func TestRing(t *testing.T) {
	four := []int{6 * fine, 8 * fine, 12 * fine, 14 * fine}
	wantRings(t, []ring{
		{"across, square to Z", [3]int{-10, 0, 0}, [3]int{1, 0, 0}, 2, 3, 1, -most, most, four},
		{"across, square to Y", [3]int{-10, 0, 0}, [3]int{1, 0, 0}, 1, 3, 1, -most, most, four},
		{"along the axis X, through the hole", [3]int{-10, 0, 0}, [3]int{1, 0, 0}, 0, 3, 1, -most, most, nil},
		{"along the axis X, through the ring", [3]int{-10, 3, 0}, [3]int{1, 0, 0}, 0, 3, 1, -most, most, []int{9 * fine, 11 * fine}},
		{"along the axis X, grazing", [3]int{-10, 0, 4}, [3]int{1, 0, 0}, 0, 3, 1, -most, most, []int{10 * fine}},
		{"along Y", [3]int{0, -10, 0}, [3]int{0, 1, 0}, 2, 3, 1, -most, most, four},
		{"along Y, square to it", [3]int{0, -10, 3}, [3]int{0, 1, 0}, 1, 3, 1, -most, most, []int{9 * fine, 11 * fine}},
		{"along Z", [3]int{0, 0, -10}, [3]int{0, 0, 1}, 0, 3, 1, -most, most, four},
		{"along Z, square to it", [3]int{3, 0, -10}, [3]int{0, 0, 1}, 2, 3, 1, -most, most, []int{9 * fine, 11 * fine}},
		{"backward", [3]int{10, 0, 0}, [3]int{-1, 0, 0}, 2, 3, 1, -most, most, four},
		{"from lo to hi", [3]int{-10, 0, 0}, [3]int{1, 0, 0}, 2, 3, 1, 8 * fine, 12 * fine, []int{8 * fine, 12 * fine}},
		{"within lo and hi", [3]int{-10, 0, 0}, [3]int{1, 0, 0}, 2, 3, 1, 8*fine + 1, 12*fine - 1, nil},
		{"lo above hi", [3]int{-10, 0, 0}, [3]int{1, 0, 0}, 2, 3, 1, 1, 0, nil},
		// Worked out elsewhere, in whole numbers.
		{"aslant", [3]int{-7, 2, 1}, [3]int{3, -1, 1}, 1, 4, 2, -most, most, []int{39548, 222595}},
	})
}

func TestRingThatIsHardlyOne(t *testing.T) {
	o, d := [3]int{-10, 0, 0}, [3]int{1, 0, 0}
	wantRings(t, []ring{
		{"wide below 0 is as if it weren't", o, d, 2, -3, 1, -most, most, []int{6 * fine, 8 * fine, 12 * fine, 14 * fine}},
		{"thin below 0 is as if it weren't", o, d, 2, 3, -1, -most, most, []int{6 * fine, 8 * fine, 12 * fine, 14 * fine}},
		{"wide 0: a ball, twice", o, d, 2, 0, 2, -most, most, []int{8 * fine, 12 * fine}},
		{"thin 0: a circle", o, d, 2, 3, 0, -most, most, []int{7 * fine, 13 * fine}},
		{"thin 0, going by", [3]int{-10, 0, 1}, d, 2, 3, 0, -most, most, nil},
		{"both 0: a point", o, d, 2, 0, 0, -most, most, []int{10 * fine}},
		{"wide as thin: without a hole", o, d, 2, 2, 2, -most, most, []int{6 * fine, 10 * fine, 14 * fine}},
		{"thicker than wide", o, d, 2, 1, 2, -most, most, []int{7 * fine, 9 * fine, 11 * fine, 13 * fine}},
		{"d of noughts, outside", o, [3]int{}, 2, 3, 1, -most, most, nil},
		{"d of noughts, on it", [3]int{4, 0, 0}, [3]int{}, 2, 3, 1, -most, most, nil},
	})
}

func TestRingAtMaxPoly(t *testing.T) {
	m := api.MaxPoly
	wantRings(t, []ring{
		{"a ray along X", [3]int{-m, 0, 0}, [3]int{m, 0, 0}, 2, m / 2, m / 4, -most, most, []int{fine / 4, 3 * fine / 4, 5 * fine / 4, 7 * fine / 4}},
		{"a slow ray", [3]int{-m, 0, 0}, [3]int{1, 0, 0}, 2, m, 1, -most, most, []int{-fine, fine, 1<<48 - fine, 1<<48 + fine}},
		{"all at MaxPoly", [3]int{-m, -m, -m}, [3]int{m, m, m}, 1, m, m, -most, most, []int{3748, 65536, 127323}},
		{"all at MaxPoly, below 0", [3]int{m, m, m}, [3]int{-m, -m, -m}, 0, -m, -m, -most, most, []int{3748, 65536, 127323}},
		{"a hair's breadth off", [3]int{-m, -m, 1 - m}, [3]int{m, m, m}, 2, m, m, -most, most, []int{3748, 65535, 65536, 127323}},
	})
}

func TestRefusedRings(t *testing.T) {
	m := api.MaxPoly
	o, d := [3]int{-10, 0, 0}, [3]int{1, 0, 0}
	for _, c := range []struct {
		what             string
		o, d             [3]int
		axis, wide, thin int
		lo, hi           int
		want             api.Errno
	}{
		{"axis 3", o, d, 3, 3, 1, 0, most, api.ErrKind},
		{"axis -1", o, d, -1, 3, 1, 0, most, api.ErrKind},
		{"axis is asked first", [3]int{m + 1, 0, 0}, d, 3, 3, 1, 0, most + 1, api.ErrKind},
		{"o beyond", [3]int{m + 1, 0, 0}, d, 2, 3, 1, 0, most, api.ErrReach},
		{"o's third beyond, below 0", [3]int{0, 0, -m - 1}, d, 2, 3, 1, 0, most, api.ErrReach},
		{"d beyond", o, [3]int{0, m + 1, 0}, 2, 3, 1, 0, most, api.ErrReach},
		{"d's third beyond, below 0", o, [3]int{0, 0, -m - 1}, 2, 3, 1, 0, most, api.ErrReach},
		{"wide beyond", o, d, 2, m + 1, 1, 0, most, api.ErrReach},
		{"wide beyond, below 0", o, d, 2, -m - 1, 1, 0, most, api.ErrReach},
		{"thin beyond", o, d, 2, 3, m + 1, 0, most, api.ErrReach},
		{"thin beyond, below 0", o, d, 2, 3, -m - 1, 0, most, api.ErrReach},
		{"lo beyond", o, d, 2, 3, 1, -most - 1, most, api.ErrReach},
		{"hi beyond", o, d, 2, 3, 1, 0, most + 1, api.ErrReach},
	} {
		if got, e := roots.Ring(c.o, c.d, c.axis, c.wide, c.thin, c.lo, c.hi); e != c.want || len(got) != 0 {
			t.Errorf("%s: %v, %d, not %d", c.what, got, e, c.want)
		}
	}
}
