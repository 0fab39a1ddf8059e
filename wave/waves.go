package wave

import "math"

// waves is a row's waves, in fresh memory; the roots say whether forward or backward.
func waves(x []complex128, rootOf func(n int) complex128) []complex128 {
	n := len(x)
	if n == 1 {
		return []complex128{x[0]}
	}
	half := n / 2
	even, odd := waves(everySecond(x, 0), rootOf), waves(everySecond(x, 1), rootOf)
	all := make([]complex128, n)
	w := rootOf(n)
	p := complex(1, 0)
	for k := range half {
		q := product(p, odd[k])
		all[k], all[k+half] = even[k]+q, even[k]-q
		p = product(p, w)
	}
	return all
}

// everySecond is those at the places from, from + 2, ..
func everySecond(x []complex128, from int) []complex128 {
	y := make([]complex128, len(x)/2)
	for i := range y {
		y[i] = x[2*i+from]
	}
	return y
}

// product: each of the four products is rounded, nothing is fused.
func product(a, b complex128) complex128 {
	return complex(
		float64(real(a)*real(b))-float64(imag(a)*imag(b)),
		float64(real(a)*imag(b))+float64(imag(a)*real(b)),
	)
}

// root is what the n-th part of a turn makes of 1, for n of 2, 4, 8, ..
func root(n int) complex128 {
	switch n {
	case 2:
		return complex(-1, 0)
	case 4:
		return complex(0, -1)
	}
	c := real(root(n / 2))
	return complex(math.Sqrt((1+c)/2), -math.Sqrt((1-c)/2))
}

func rootBackward(n int) complex128 {
	w := root(n)
	return complex(real(w), -imag(w))
}
