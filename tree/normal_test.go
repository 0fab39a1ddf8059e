package tree_test

import (
	"math"
	"testing"

	"rayhouse/api"
	"rayhouse/field"
	"rayhouse/shape"
	"rayhouse/solid"
	"rayhouse/tree"
)

func wantNormal(t *testing.T, what string, grown *tree.Tree, f api.Found, p, want api.Vec, wantSkin int) {
	t.Helper()
	n, skin, e := grown.Normal(f, p)
	if e != api.OK || skin != wantSkin || !sameVec(n, want) {
		t.Errorf("Normal, %s, of %v at %v: %v, %d, %d, not %v, %d", what, f, p, n, skin, e, want, wantSkin)
	}
}

// wantNoNormal: an error, and all else 0.
func wantNoNormal(t *testing.T, what string, grown *tree.Tree, f api.Found, p api.Vec, want api.Errno) {
	t.Helper()
	if n, skin, e := grown.Normal(f, p); e != want || skin != 0 || !sameVec(n, v(0, 0, 0)) {
		t.Errorf("Normal, %s, of %v at %v: %v, %d, %d, not 0, 0 and %d", what, f, p, n, skin, e, want)
	}
}

// withSkins: two shapes, two solids and two fields; their skins are 1 to 6, those of a solid's leaves 7 to 9.
func withSkins() all {
	b, c := ball(v(1, 1, 1), 2), block(v(0, 0, 0), v(2, 4, 6))
	b.Skin, c.Skin = 1, 2
	l, m, n := ball(v(0, 0, 0), 3), bar(-9, 9), tube(v(0, 0, 0), v(0, 3, 0), 1)
	l.Skin, m.Skin, n.Skin = 7, 8, 9
	s, q := two(api.Less, l, m), of(leaf(n), leaf(m), api.Part{Op: api.Either, Left: 0, Right: 1}, leaf(l), api.Part{Op: api.Less, Left: 3, Right: 2})
	s.Skin, q.Skin = 3, 4
	f, g := flat(2, 2, v(0, 0, 0)), flat(3, 2, v(0, 0, 0))
	f.High, g.High = []int{0, 0, 1000, 1000}, []int{0, 1000, 0, 0, 1000, 0}
	f.Skin, g.Skin = 5, 6
	return all{[]api.Shape{b, c}, []api.Solid{s, q}, []api.Field{f, g}}
}

// B3

func TestNormal(t *testing.T) {
	grown := withSkins().build(t)
	half := math.Sqrt(2)
	for _, c := range []struct {
		what    string
		f       api.Found
		p, want api.Vec
		skin    int
	}{
		{"a ball", api.Found{}, v(4, 5, 1), v(0.6, 0.8, 0), 1},
		{"the middle of a ball", api.Found{}, v(1, 1, 1), v(0, 0, 0), 1},
		{"a ball, turned", api.Found{Turned: true}, v(4, 5, 1), v(0.6, 0.8, 0), 1},
		{"a ball's piece 1", api.Found{Piece: 1}, v(4, 5, 1), v(0.6, 0.8, 0), 1},
		{"a ball's piece -1", api.Found{Piece: -1}, v(4, 5, 1), v(0.6, 0.8, 0), 1},
		{"a ball's greatest piece", api.Found{Piece: math.MaxInt, T: none}, v(4, 5, 1), v(0.6, 0.8, 0), 1},
		{"noughts with signs", api.Found{}, v(1, minus0, 1), v(0, -1, 0), 1},
		{"a block", api.Found{Which: 1}, v(1, 2, 5.9), v(0, 0, 1), 2},
		{"a block, found far away", api.Found{Which: 1, T: inf}, v(0.1, 2, 3), v(-1, 0, 0), 2},
		{"a solid's leaf 0", api.Found{Which: 2}, v(0, 3, 4), v(0, 0.6, 0.8), 3},
		{"a solid's leaf 0, turned", api.Found{Which: 2, Turned: true}, v(0, 3, 4), v(minus0, -0.6, -0.8), 3},
		{"a solid's leaf 1", api.Found{Which: 2, Piece: 1}, v(0.9, 0, 0), v(1, 0, 0), 3},
		{"a solid's leaf 1, turned", api.Found{Which: 2, Piece: 1, Turned: true, T: -1}, v(0.9, 0, 0), v(-1, minus0, minus0), 3},
		{"a solid's leaf, turned, where nothing stands", api.Found{Which: 2, Turned: true}, v(0, 0, 0), v(minus0, minus0, minus0), 3},
		{"another solid's leaf 0", api.Found{Which: 3}, v(0.6, 1, 0.8), v(0.6, 0, 0.8), 4},
		{"another solid's leaf 3", api.Found{Which: 3, Piece: 3, Turned: true}, v(0, 0, 7), v(minus0, minus0, -1), 4},
		{"a field's first piece", api.Found{Which: 4}, v(0, 9, 9), v(0, 1/half, -1/half), 5},
		{"a field's last piece", api.Found{Which: 4, Piece: 1}, v(0, 9, 9), v(0, 1/half, -1/half), 5},
		{"a field's piece, turned", api.Found{Which: 4, Piece: 1, Turned: true}, v(0, 9, 9), v(0, 1/half, -1/half), 5},
		{"another field's first piece", api.Found{Which: 5}, v(0, 0, 0), v(-1/half, 1/half, 0), 6},
		{"another field's second piece", api.Found{Which: 5, Piece: 1}, v(0, 0, 0), v(-1/half, 1/half, 0), 6},
		{"another field's third piece", api.Found{Which: 5, Piece: 2}, v(0, 0, 0), v(1/half, 1/half, 0), 6},
		{"another field's last piece", api.Found{Which: 5, Piece: 3}, v(0, 0, 0), v(1/half, 1/half, 0), 6},
	} {
		n, skin, e := grown.Normal(c.f, c.p)
		near := vecFar(n, c.want) < 1e-15 && c.f.Which >= 4 || sameVec(n, c.want)
		if e != api.OK || skin != c.skin || !near {
			t.Errorf("Normal, %s: %v, %d, %d, not %v, %d", c.what, n, skin, e, c.want, c.skin)
		}
	}
}

// vecFar: how far apart two are, at most, in one of their numbers.
func vecFar(a, b api.Vec) float64 {
	return max(math.Abs(a.X-b.X), math.Abs(a.Y-b.Y), math.Abs(a.Z-b.Z))
}

func TestNormalOfNothing(t *testing.T) {
	bad := []api.Vec{v(0, 0, 0), v(none, 0, 0), v(0, beyond, 0)}
	for _, a := range []all{{}, shapesOf(bar(1, 2)), withSkins()} {
		grown := a.build(t)
		for _, which := range []int{-1, -2, math.MinInt, a.count(), a.count() + 1, 1000, math.MaxInt} {
			for _, p := range bad {
				for _, turned := range []bool{false, true} {
					wantNoNormal(t, "no such thing", grown, api.Found{Which: which, Turned: turned}, p, api.ErrName)
					wantNoNormal(t, "no such thing", grown, api.Found{Which: which, Piece: -1, Turned: turned, T: 1}, p, api.ErrName)
				}
			}
		}
	}
}

func TestNormalOfNoPiece(t *testing.T) {
	grown := withSkins().build(t)
	for which, pieces := range map[int][]int{
		// The parts that are no leaf, and beyond the parts.
		2: {2, 3, -1, api.MaxParts, math.MaxInt, math.MinInt},
		3: {2, 4, 5, -1, -2, api.MaxParts, math.MaxInt, math.MinInt},
		// Beyond the triangles.
		4: {2, -1, 3, math.MaxInt, math.MinInt},
		5: {4, -1, -4, 5, 98, math.MaxInt, math.MinInt},
	} {
		for _, piece := range pieces {
			for _, p := range []api.Vec{v(0, 0, 0), v(0, none, 0), v(-inf, 0, 0)} {
				wantNoNormal(t, "no such piece", grown, api.Found{Which: which, Piece: piece}, p, api.ErrName)
				wantNoNormal(t, "no such piece", grown, api.Found{Which: which, Piece: piece, Turned: true}, p, api.ErrName)
			}
		}
	}
	greatest := fieldsOf(flat(api.MaxGrid, api.MaxGrid, v(0, 0, 0))).build(t)
	wantNormal(t, "the last piece", greatest, api.Found{Piece: 97}, v(0, 0, 0), v(0, 1, minus0), 0)
	wantNoNormal(t, "one more", greatest, api.Found{Piece: 98}, v(0, 0, 0), api.ErrName)
}

func TestNormalOutOfReach(t *testing.T) {
	a := withSkins()
	grown := a.build(t)
	for which := range a.count() {
		for _, x := range []float64{beyond, -beyond, inf, -inf, none} {
			for _, p := range []api.Vec{v(x, 0, 0), v(0, x, 0), v(0, 0, x)} {
				wantNoNormal(t, "out of reach", grown, api.Found{Which: which}, p, api.ErrReach)
				wantNoNormal(t, "out of reach, turned", grown, api.Found{Which: which, Turned: true}, p, api.ErrReach)
			}
		}
		if _, _, e := grown.Normal(api.Found{Which: which}, v(api.MaxReach, -api.MaxReach, api.MaxReach)); e != api.OK {
			t.Errorf("Normal of %d at the edge of reach: %d", which, e)
		}
	}
}

// normal: what stands on a thing, as the layers above tell it.
func (a all) normal(f api.Found, p api.Vec) (n api.Vec, skin int, e api.Errno) {
	which := f.Which
	if which < len(a.shapes) {
		n, e = shape.Normal(a.shapes[which], p)
		return n, a.shapes[which].Skin, e
	}
	which -= len(a.shapes)
	if which < len(a.solids) {
		n, e = solid.Normal(a.solids[which], api.Cross{Leaf: f.Piece, Turned: f.Turned}, p)
		return n, a.solids[which].Skin, e
	}
	which -= len(a.solids)
	pieces, _ := field.Pieces(a.fields[which])
	n, e = shape.Normal(pieces[f.Piece], p)
	return n, a.fields[which].Skin, e
}

// What was found, is what something stands on.
func TestNormalOfWhatIsFound(t *testing.T) {
	d := die(23)
	var kinds [3]int
	for range 150 {
		a := d.things(10, 4, 2)
		grown := a.build(t)
		for range 40 {
			r := d.aimed(a)
			f, _ := grown.Nearest(r)
			p := v(r.From.X+float64(f.T*r.Dir.X), r.From.Y+float64(f.T*r.Dir.Y), r.From.Z+float64(f.T*r.Dir.Z))
			if f.Which < 0 {
				wantNoNormal(t, "nothing is found", grown, f, p, api.ErrName)
				continue
			}
			n, skin, e := a.normal(f, p)
			if e != api.OK {
				t.Fatalf("nothing stands on %v of %v: %d", f, a, e)
			}
			wantNormal(t, "what is found", grown, f, p, n, skin)
			kinds[kindOf(a, f)]++
		}
	}
	for kind, n := range kinds {
		if n < 100 {
			t.Errorf("kind %d is found only %d times: the test tells little", kind, n)
		}
	}
}

// kindOf: 0 a shape, 1 a solid, 2 a field.
func kindOf(a all, f api.Found) int {
	if f.Which < len(a.shapes) {
		return 0
	}
	if f.Which < len(a.shapes)+len(a.solids) {
		return 1
	}
	return 2
}
