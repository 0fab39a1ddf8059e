package wave_test

import (
	"math"
	"math/big"
	"math/bits"
)

// A second working of A2: not by halves of a row, but in place, from neighbours up, in numbers without a bound that are rounded once an operation.

// exact: a float, in so many bits that no sum and no product of two is rounded.
func exact(x float64) *big.Float {
	return new(big.Float).SetPrec(4400).SetFloat64(x)
}

func rounded(x *big.Float) float64 {
	f, _ := x.Float64()
	return f
}

func times(a, b float64) float64 {
	x := exact(a)
	return rounded(x.Mul(x, exact(b)))
}

func plus(a, b float64) float64 {
	x := exact(a)
	return rounded(x.Add(x, exact(b)))
}

func minus(a, b float64) float64 {
	x := exact(a)
	return rounded(x.Sub(x, exact(b)))
}

// pair: the two parts of a complex number.
type pair struct{ first, second float64 }

func (a pair) times(b pair) pair {
	return pair{
		minus(times(a.first, b.first), times(a.second, b.second)),
		plus(times(a.first, b.second), times(a.second, b.first)),
	}
}

// rootBits: A2's roots that aren't whole, each square root worked out with 200 digits and rounded.
var rootBits = map[int][2]uint64{
	8:  {0x3fe6a09e667f3bcd, 0xbfe6a09e667f3bcd},
	16: {0x3fed906bcf328d46, 0xbfd87de2a6aea962},
	32: {0x3fef6297cff75cb0, 0xbfc8f8b83c69a60c},
	64: {0x3fefd88da3d12526, 0xbfb917a6bc29b42f},
}

func secondRoot(n int) pair {
	switch n {
	case 2:
		return pair{-1, 0}
	case 4:
		return pair{0, -1}
	}
	l := rootBits[n]
	return pair{math.Float64frombits(l[0]), math.Float64frombits(l[1])}
}

// powers: p, as it goes on from 1.
func powers(n int, backward bool) []pair {
	w := secondRoot(n)
	if backward {
		w.second = -w.second
	}
	l := []pair{{1, 0}}
	for len(l) < n/2 {
		l = append(l, l[len(l)-1].times(w))
	}
	return l
}

// secondWaves: the waves of a row, forward or backward, part by part.
func secondWaves(x []pair, backward bool) []pair {
	n := len(x)
	y := make([]pair, n)
	for i := range x {
		// Where it comes to by going to even and odd places again and again: its digits to the base 2, mirrored.
		y[int(bits.Reverse64(uint64(i))>>(64-bits.Len(uint(n-1)))&uint64(n-1))] = x[i]
	}
	for size := 2; size <= n; size *= 2 {
		l := powers(size, backward)
		for at := 0; at < n; at += size {
			for k, p := range l {
				low, high := &y[at+k], &y[at+k+size/2]
				e, q := *low, p.times(*high)
				*low = pair{plus(e.first, q.first), plus(e.second, q.second)}
				*high = pair{minus(e.first, q.first), minus(e.second, q.second)}
			}
		}
	}
	return y
}

func pairs(x []complex128) []pair {
	l := make([]pair, len(x))
	for i, z := range x {
		l[i] = pair{real(z), imag(z)}
	}
	return l
}

func secondForth(x []complex128) []pair {
	return secondWaves(pairs(x), false)
}

func secondBack(x []complex128) []pair {
	l := secondWaves(pairs(x), true)
	for i, p := range l {
		l[i] = pair{p.first / float64(len(l)), p.second / float64(len(l))}
	}
	return l
}

// summed: what going round and being spread means, in whole numbers.
func summed(row, weights []int) []int {
	n := len(row)
	l := make([]int, n)
	for i, r := range row {
		for j, w := range weights {
			l[(i+j)%n] += r * w
		}
	}
	return l
}
