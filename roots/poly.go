package roots

import "rayhouse/api"

// poly is a polynomial: its coefficients, the lowest power's first, the last one not 0 (that of nought has none).
type poly []whole

// polyOf leaves out noughts of the highest powers.
func polyOf(coefficients []whole) poly {
	for len(coefficients) > 0 && coefficients[len(coefficients)-1].sign == 0 {
		coefficients = coefficients[:len(coefficients)-1]
	}
	return coefficients
}

func (f poly) plus(g poly) poly {
	if len(f) < len(g) {
		f, g = g, f
	}
	sums := make([]whole, len(f))
	for i, c := range f {
		if i < len(g) {
			c = c.plus(g[i])
		}
		sums[i] = c
	}
	return polyOf(sums)
}

func (f poly) times(g poly) poly {
	if len(f) == 0 || len(g) == 0 {
		return nil
	}
	products := make([]whole, len(f)+len(g)-1)
	for i, a := range f {
		for j, b := range g {
			products[i+j] = products[i+j].plus(a.times(b))
		}
	}
	return polyOf(products)
}

// finer is a polynomial whose roots are Fine times those of f: where these are, a place is a whole number.
func (f poly) finer() poly {
	g := make(poly, len(f))
	by := wholeOf(1)
	for i := len(f) - 1; i >= 0; i-- {
		g[i] = f[i].times(by)
		by = by.times(wholeOf(api.Fine))
	}
	return g
}

// slope is the derivative.
func (f poly) slope() poly {
	var g poly
	for i, c := range f {
		if i > 0 {
			g = append(g, c.times(wholeOf(i)))
		}
	}
	return g
}

// turnedRest is what is left of f divided by g, times some number above 0 (so that all stays whole), with its sign turned.
func (f poly) turnedRest(g poly) poly {
	top := g[len(g)-1]
	size := top
	if top.sign < 0 {
		size = top.minus()
	}
	for len(f) >= len(g) {
		lead := f[len(f)-1]
		if top.sign > 0 {
			lead = lead.minus()
		}
		shift := len(f) - len(g)
		rest := make([]whole, len(f)-1)
		for i := range rest {
			rest[i] = f[i].times(size)
			if i >= shift {
				rest[i] = rest[i].plus(lead.times(g[i-shift]))
			}
		}
		f = polyOf(rest)
	}
	turned := make(poly, len(f))
	for i, c := range f {
		turned[i] = c.minus()
	}
	return turned
}

// signAt is f's sign at x.
func (f poly) signAt(x whole) int {
	var value whole
	for i := len(f) - 1; i >= 0; i-- {
		value = value.times(x).plus(f[i])
	}
	return value.sign
}

// signAhead is f's sign ahead of x, however near: it is never 0 (f isn't nought).
func (f poly) signAhead(x whole) int {
	return f.signBeside(x, -1)
}

// signBehind is f's sign behind x, however near.
func (f poly) signBehind(x whole) int {
	return f.signBeside(x, 1)
}

// signBeside: where f is 0 it is on the one side (1) what its slope is; on the other (-1) the other way about.
func (f poly) signBeside(x whole, side int) int {
	turned := 1
	for {
		if s := f.signAt(x); s != 0 {
			return s * turned
		}
		f = f.slope()
		turned *= side
	}
}
