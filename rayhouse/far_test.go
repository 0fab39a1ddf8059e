package rayhouse

import (
	"math"
	"math/big"
	"testing"
)

// No line's ray comes so far: seven digits of thousandths are too few. So this is asked of the inner function.
func TestThousandths(t *testing.T) {
	for _, c := range []struct {
		t    float64
		want int
	}{
		{0, 0}, {math.Copysign(0, -1), 0}, {4, 4000}, {0.0005, 0}, {0.000999, 0}, {0.001, 1}, {0.0019999, 1}, {4.0 / 3, 1333}, {2.9999, 2999}, {1e9 + 0.0005, 1e12},
		{1e12 - 0.001, 1e15 - 1}, {1e12 - 1, 1e15 - 1000}, {1e12, 1e15}, {math.Nextafter(1e12, math.Inf(1)), 1e15}, {1e12 + 1, 1e15}, {2e12, 1e15}, {1e300, 1e15}, {math.MaxFloat64, 1e15}, {math.Inf(1), 1e15},
	} {
		if got := thousandths(c.t); got != c.want {
			t.Errorf("%v: %d, not %d", c.t, got, c.want)
		}
	}
}

// The product is rounded first, as all floats are, and cut off then.
func TestThousandthsOfRoundedProducts(t *testing.T) {
	for n := range 100000 {
		for _, far := range []float64{float64(n) / 1000, math.Nextafter(float64(n)/1000, 0), math.Nextafter(float64(n)/1000, 1e6), math.Sqrt(float64(n))} {
			product := new(big.Float).SetPrec(53).Mul(big.NewFloat(far), big.NewFloat(1000))
			if want, _ := product.Int64(); thousandths(far) != int(want) {
				t.Fatalf("%v: %d, not %d", far, thousandths(far), want)
			}
		}
	}
}
