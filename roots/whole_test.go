package roots

import (
	"math/big"
	"testing"
)

// asBig: the same number, of the library's kind.
func asBig(a whole) *big.Int {
	n := new(big.Int)
	for i := len(a.words) - 1; i >= 0; i-- {
		n.Lsh(n, 64).Or(n, new(big.Int).SetUint64(a.words[i]))
	}
	if a.sign < 0 {
		n.Neg(n)
	}
	return n
}

// edgy: numbers whose words are full, or nearly, so that much is carried.
func edgy() []whole {
	full := ^uint64(0)
	sizes := [][]uint64{{1}, {2}, {full}, {full - 1}, {0, 1}, {full, full}, {0, full}, {1, 0, 1}, {full, full, full}, {0, 0, 0, 1 << 63}, {full, 0, full, 0, 3}}
	l := []whole{{}}
	for _, words := range sizes {
		l = append(l, whole{1, words}, whole{-1, words})
	}
	return l
}

func wantWhole(t *testing.T, what string, got whole, want *big.Int) {
	t.Helper()
	if asBig(got).Cmp(want) != 0 || got.sign != want.Sign() {
		t.Errorf("%s: %v, not %v", what, got, want)
	}
	if n := len(got.words); n > 0 && got.words[n-1] == 0 || (n == 0) != (got.sign == 0) {
		t.Errorf("%s: %v has a nought at its end, or a sign that isn't its", what, got)
	}
}

func TestWholesAgainstTheLibrary(t *testing.T) {
	for _, a := range edgy() {
		wantWhole(t, "minus", a.minus(), new(big.Int).Neg(asBig(a)))
		for _, b := range edgy() {
			wantWhole(t, "plus", a.plus(b), new(big.Int).Add(asBig(a), asBig(b)))
			wantWhole(t, "times", a.times(b), new(big.Int).Mul(asBig(a), asBig(b)))
		}
	}
}

func TestWholeOf(t *testing.T) {
	for _, n := range []int{0, 1, -1, 1 << 50, -(1 << 50), 1<<63 - 1, -1 << 63} {
		wantWhole(t, "wholeOf", wholeOf(n), big.NewInt(int64(n)))
	}
}
