package roots

import "math/bits"

// whole is a whole number without a bound, so that nothing is ever rounded: its sign (-1, 0, 1), and its size in words, the lowest first, the last one not 0.
// No call writes into the words of another one's whole: several may share them.
type whole struct {
	sign  int
	words []uint64
}

func wholeOf(n int) whole {
	if n < 0 {
		return whole{-1, []uint64{-uint64(n)}}
	}
	if n > 0 {
		return whole{1, []uint64{uint64(n)}}
	}
	return whole{}
}

func (a whole) minus() whole {
	return whole{-a.sign, a.words}
}

func (a whole) plus(b whole) whole {
	if a.sign == 0 {
		return b
	}
	if b.sign == 0 {
		return a
	}
	if a.sign == b.sign {
		return whole{a.sign, sum(a.words, b.words)}
	}
	switch compare(a.words, b.words) {
	case 1:
		return whole{a.sign, difference(a.words, b.words)}
	case -1:
		return whole{b.sign, difference(b.words, a.words)}
	}
	return whole{}
}

func (a whole) times(b whole) whole {
	if a.sign == 0 || b.sign == 0 {
		return whole{}
	}
	return whole{a.sign * b.sign, product(a.words, b.words)}
}

// compare is 1, if a is greater, -1, if b is, else 0.
func compare(a, b []uint64) int {
	if len(a) != len(b) {
		if len(a) > len(b) {
			return 1
		}
		return -1
	}
	for i := len(a) - 1; i >= 0; i-- {
		if a[i] > b[i] {
			return 1
		}
		if a[i] < b[i] {
			return -1
		}
	}
	return 0
}

func sum(a, b []uint64) []uint64 {
	if len(a) < len(b) {
		a, b = b, a
	}
	s := make([]uint64, len(a)+1)
	carry := uint64(0)
	for i, w := range a {
		other := uint64(0)
		if i < len(b) {
			other = b[i]
		}
		s[i], carry = bits.Add64(w, other, carry)
	}
	s[len(a)] = carry
	return trim(s)
}

// difference is a less b, of which a is not the lesser one.
func difference(a, b []uint64) []uint64 {
	d := make([]uint64, len(a))
	borrow := uint64(0)
	for i, w := range a {
		other := uint64(0)
		if i < len(b) {
			other = b[i]
		}
		d[i], borrow = bits.Sub64(w, other, borrow)
	}
	return trim(d)
}

func product(a, b []uint64) []uint64 {
	p := make([]uint64, len(a)+len(b))
	for i, w := range a {
		p[i+len(b)] = addTimes(p[i:i+len(b)], b, w)
	}
	return trim(p)
}

// addTimes adds w times b to as many words of p, and tells what is carried beyond them.
func addTimes(p, b []uint64, w uint64) uint64 {
	carry := uint64(0)
	for i, v := range b {
		high, low := bits.Mul64(v, w)
		// high can't overflow: the square of the greatest word and two more words still fit into two.
		var c uint64
		low, c = bits.Add64(low, p[i], 0)
		high += c
		low, c = bits.Add64(low, carry, 0)
		high += c
		p[i], carry = low, high
	}
	return carry
}

// trim leaves out words of nought at the end.
func trim(a []uint64) []uint64 {
	for len(a) > 0 && a[len(a)-1] == 0 {
		a = a[:len(a)-1]
	}
	return a
}
