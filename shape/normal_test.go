package shape_test

import (
	"testing"

	"rayhouse/api"
	"rayhouse/shape"
)

// H5

func TestNormal(t *testing.T) {
	cube := block(v(-1, -1, -1), v(1, 1, 1))
	brick := block(v(0, 0, 0), v(2, 4, 6))
	pipe := tube(v(1, 0, 0), v(0, 4, 0), 1)
	back := tube(v(0, 0, 0), v(0, 0, -4), 1)
	hoop := ring(v(1, 0, 0), v(0, 0, 3), 2, 0.5)
	for _, c := range []struct {
		what    string
		s       api.Shape
		p, want api.Vec
	}{
		{"a ball", ball(v(1, 1, 1), 1), v(4, 5, 1), v(0.6, 0.8, 0)},
		{"a ball, from within", ball(v(1, 1, 1), 9), v(1, 1, 0.5), v(0, 0, -1)},
		{"the middle of a ball", ball(v(1, 1, 1), 1), v(1, 1, 1), v(0, 0, 0)},
		{"nearly the middle of a ball", ball(v(0, 0, 0), 1), v(1e-170, -1e-170, 0), v(0, 0, 0)},
		{"noughts with a sign, of a ball", ball(v(0, minus0, 0), 1), v(minus0, minus0, 2), v(minus0, 0, 1)},

		{"a block's first side", brick, v(0.1, 2, 3), v(-1, 0, 0)},
		{"a block's second side", brick, v(1.9, 2, 3), v(1, 0, 0)},
		{"a block's third side", brick, v(1, 0.1, 3), v(0, -1, 0)},
		{"a block's fourth side", brick, v(1, 3.9, 3), v(0, 1, 0)},
		{"a block's fifth side", brick, v(1, 2, 0.1), v(0, 0, -1)},
		{"a block's sixth side", brick, v(1, 2, 5.9), v(0, 0, 1)},
		{"outside of a block, ahead of it", brick, v(-0.5, 2, 3), v(-1, 0, 0)},
		{"outside of a block, behind it", brick, v(2.5, 2, 3), v(1, 0, 0)},
		{"far outside of a block, but beside its plane", brick, v(9, 2, 6.5), v(0, 0, 1)},
		{"far ahead of a block, but beside its plane", brick, v(-5, 2, 5.9), v(0, 0, 1)},
		{"the middle of a cube", cube, v(0, 0, 0), v(-1, 0, 0)},
		{"a corner of a cube", cube, v(1, 1, 1), v(1, 0, 0)},
		{"an edge of a cube", cube, v(0, 1, -1), v(0, 1, 0)},
		{"an edge of a cube, in Y and Z", cube, v(0.5, -1, -1), v(0, -1, 0)},
		{"a flat block", block(v(0, 0, 1), v(9, 9, 1)), v(4, 5, 2), v(0, 0, -1)},

		{"a triangle", triangle(v(0, 0, 0), v(2, 0, 0), v(0, 3, 0)), v(9, 9, 9), v(0, 0, 1)},
		{"a triangle, the other way about", triangle(v(0, 0, 0), v(0, 3, 0), v(2, 0, 0)), v(0, 0, 0), v(0, 0, -1)},
		{"a triangle from another corner on", triangle(v(1, 1, 1), v(1, 3, 1), v(1, 1, 4)), v(0, 0, 0), v(1, 0, 0)},
		{"a flat triangle", triangle(v(0, 0, 0), v(1, 1, 1), v(2, 2, 2)), v(0, 0, 0), v(0, 0, 0)},
		{"a triangle that is too small", triangle(v(0, 0, 0), v(1e-100, 0, 0), v(0, 1e-100, 0)), v(0, 0, 0), v(0, 0, 0)},

		{"a plate", plate(v(1, 2, 3), v(0, 3, -4), 1), v(9, 9, 9), v(0, 0.6, -0.8)},
		{"a plate whose B has noughts with signs", plate(v(1, 2, 3), v(minus0, -2, 0), 1), v(0, 0, 0), v(minus0, -1, 0)},

		{"a tube's side", pipe, v(1.6, 2, 0.8), v(0.6000000000000001, 0, 0.8)},
		{"a tube's side, from outside", pipe, v(2.5, 2, -2), v(0.6, 0, -0.8)},
		{"a tube's beginning", pipe, v(1.5, 0.1, 0), v(minus0, -1, minus0)},
		{"a tube's end", pipe, v(1.5, 3.9, 0), v(0, 1, 0)},
		{"below a tube's beginning", pipe, v(1.5, -0.25, 0), v(minus0, -1, minus0)},
		{"above a tube's end", pipe, v(1.5, 4.25, 0), v(0, 1, 0)},
		{"as far from a tube's side as from its beginning", pipe, v(1.5, 0.5, 0), v(1, 0, 0)},
		{"as far from a tube's side as from its end", pipe, v(1.5, 3.5, 0), v(1, 0, 0)},
		{"as far from a tube's ends", tube(v(0, 0, 0), v(0, 1, 0), 9), v(0, 0.5, 0), v(minus0, -1, minus0)},
		{"a tube's axis, nearest to its side", pipe, v(1, 2, 0), v(0, 0, 0)},
		{"a tube's axis, nearest to its end", pipe, v(1, 3.5, 0), v(0, 1, 0)},
		{"a backward tube's beginning", back, v(0, 0.5, -0.1), v(minus0, minus0, 1)},
		{"a backward tube's end", back, v(0, 0.5, -3.9), v(0, 0, -1)},
		{"a backward tube's side", back, v(0, -2, -2), v(0, -1, 0)},

		{"a ring, outside", hoop, v(4, 0, 0), v(1, 0, 0)},
		{"a ring, in the hole", hoop, v(1, 1, 0), v(0, -1, 0)},
		{"a ring, above", hoop, v(1, -2, 1), v(0, 0, 1)},
		{"a ring, aslant", hoop, v(6, 0, 4), v(0.6, 0, 0.8)},
		{"a ring's axis", hoop, v(1, 0, 2), v(0, 0, 0)},
		{"a ring's middle", hoop, v(1, 0, 0), v(0, 0, 0)},
		{"nearly a ring's axis", ring(v(0, 0, 0), v(0, 0, 1), 2, 1), v(1e-170, 0, 2), v(0, 0, 0)},
		{"a ring's innermost", hoop, v(3, 0, 0), v(0, 0, 0)},
		{"a ring square to X", ring(v(0, 0, 0), v(-1, 0, 0), 2, 0.5), v(0, 0, -3), v(0, 0, -1)},
		{"a ring square to Y", ring(v(0, 0, 0), v(0, 1, 0), 2, 0.5), v(-3, 0, 0), v(-1, 0, 0)},
	} {
		got, e := shape.Normal(c.s, c.p)
		if e != api.OK || !sameVec(got, c.want) {
			t.Errorf("Normal of %s: %v, %d, not %v", c.what, got, e, c.want)
		}
	}
}

// Worked out elsewhere; where a product was fused into a sum, other bits would come out.
func TestNormalBits(t *testing.T) {
	for i, c := range []struct {
		s       api.Shape
		p, want api.Vec
	}{
		{ball(v(-3, 0.9, 0.5), 1.9), v(2.5, -0.1, -3.2), v(0.8204387333468539, -0.14917067879033707, -0.5519315115242471)},
		{ball(v(-2.9, -2.7, -1.4), 2.7), v(1.5, 0.9, 1.9), v(0.6693612135153632, 0.547659174694388, 0.5020209101365223)},
		{ball(v(1.2, -2.7, 0.2), 0.3), v(1.6, 3.2, 0.4), v(0.06760268354178588, 0.9971395822413414, 0.033801341770892925)},
		{triangle(v(3, -2.1, -0.5), v(1.1, -2.7, -2.6), v(2.2, 0.4, -2.4)), v(1.3, -3.2, -1), v(0.753540355573274, -0.2275951308695491, -0.6167474271749958)},
		{triangle(v(0.5, 2.2, 1.3), v(-1.9, -2.4, 0.7), v(0.6, 1, -1.8)), v(-1.4, 2.3, 2.8), v(0.855084981125151, -0.47364382263209986, 0.2109293823454952)},
		{triangle(v(-1.8, 2.3, 2.6), v(1.5, 1.6, 1), v(-2.2, -0.5, -0.8)), v(-2, -3.3, -3), v(-0.13678532400119853, 0.7725114012639117, -0.6200934688054331)},
		{plate(v(2.3, 0.1, 2.8), v(-2.4, -2.8, -1.4), 2.5), v(2.9, -1.4, 2), v(-0.6084241518760727, -0.7098281771887514, -0.3549140885943757)},
		{plate(v(2.4, 2, -1.3), v(2.5, 0.9, 0.8), 1.7), v(2.7, 3.1, 3.6), v(0.900937462695559, 0.32433748657040123, 0.2882999880625789)},
		{tube(v(-3, 0.1, -1.8), v(-2.6, 0, 0), 1.1), v(2.5, -2.7, -0.1), v(0, -0.8547875152217291, 0.5189781342417641)},
		{tube(v(0.1, -1.2, 3), v(0, 0, -0.6), 1.9), v(1.7, 1.4, -0.3), v(0.5240974256643347, 0.851658316704544, 0)},
		{tube(v(-0.9, 0.5, 1.6), v(0, 2.3, 0), 2.9), v(1.7, -2.6, -1.3), v(0.6675450157520258, 0, -0.7445694406464904)},
		{ring(v(-0.5, -2.3, -2), v(0, 0, -2.6), 2.8, 0.8), v(1.4, -2.3, 3), v(-0.17715299831526515, 0, 0.9841833239736953)},
		{ring(v(0.5, 1.6, -1.6), v(0, -2.1, 0), 2.9, 0.7), v(2, 0.5, -1.1), v(-0.728540807155542, -0.6405104668319475, -0.24284693571851404)},
		{ring(v(1.5, 2.1, 2.2), v(0, 0, 2.5), 2.9, 0.3), v(0.9, 0.8, 3.7), v(0.29312925011779223, 0.6351133752552165, 0.7146371410004574)},
		{ring(v(-1.5, -3, 0.2), v(1.4, 0, 0), 2.5, 0.5), v(0.2, 4, -2.5), v(0.32174893826221945, 0.8833893149391246, -0.3407358786193766)},
	} {
		if got, e := shape.Normal(c.s, c.p); e != api.OK || !sameVec(got, c.want) {
			t.Errorf("%d: %v, %d, not %v", i, got, e, c.want)
		}
	}
}

func TestNormalOutOfReach(t *testing.T) {
	for _, s := range ordinary() {
		for _, x := range outOfReach() {
			for _, put := range set() {
				p := v(1, 2, 3)
				put(&p, x)
				if n, e := shape.Normal(s, p); e != api.ErrReach || !sameVec(n, v(0, 0, 0)) {
					t.Errorf("Normal of kind %d at %v: %v, %d, not 0 and ErrReach", s.Kind, p, n, e)
				}
			}
		}
		if _, e := shape.Normal(s, v(api.MaxReach, -api.MaxReach, api.MaxReach)); e != api.OK {
			t.Errorf("Normal of kind %d at the edge of reach: %d", s.Kind, e)
		}
	}
}
