package solid_test

import (
	"fmt"
	"math"
	"slices"
	"strings"
	"testing"

	"rayhouse/api"
	"rayhouse/shape"
	"rayhouse/solid"
)

var (
	minus0 = math.Copysign(0, -1)
	inf    = math.Inf(1)
	none   = math.NaN()
	beyond = math.Nextafter(api.MaxReach, inf)
	tiny   = math.Nextafter(1/api.MaxReach, 0)
)

// same: the same bits; of floats that are no number it does not matter which one it is.
func same(a, b float64) bool {
	return math.Float64bits(a) == math.Float64bits(b) || a != a && b != b
}

func sameVec(a, b api.Vec) bool {
	return same(a.X, b.X) && same(a.Y, b.Y) && same(a.Z, b.Z)
}

func v(x, y, z float64) api.Vec {
	return api.Vec{X: x, Y: y, Z: z}
}

func ray(from, dir api.Vec, least float64) api.Ray {
	return api.Ray{From: from, Dir: dir, Least: least}
}

// next: the next float above x.
func next(x float64) float64 {
	return math.Nextafter(x, inf)
}

// ahead: the next float below x.
func ahead(x float64) float64 {
	return math.Nextafter(x, -inf)
}

func ball(a api.Vec, r float64) api.Shape {
	return api.Shape{Kind: api.Ball, A: a, R: r}
}

func block(a, b api.Vec) api.Shape {
	return api.Shape{Kind: api.Block, A: a, B: b}
}

func tube(a, b api.Vec, r float64) api.Shape {
	return api.Shape{Kind: api.Tube, A: a, B: b, R: r}
}

// bar: a block about the axis Z: a ray from 0 along Z is within it from lo to hi.
func bar(lo, hi float64) api.Shape {
	return block(v(-1, -1, lo), v(1, 1, hi))
}

func leaf(s api.Shape) api.Part {
	return api.Part{Shape: s}
}

func made(op, left, right int) api.Part {
	return api.Part{Op: op, Left: left, Right: right}
}

func of(parts ...api.Part) api.Solid {
	return api.Solid{Parts: parts}
}

// two: a solid of two shapes.
func two(op int, a, b api.Shape) api.Solid {
	return of(leaf(a), leaf(b), made(op, 0, 1))
}

func ops() []int {
	return []int{api.Both, api.Either, api.Less}
}

// along: from 0 along Z.
func along(least float64) api.Ray {
	return ray(v(0, 0, 0), v(0, 0, 1), least)
}

// tellCross: where, the leaf as a letter, and ' if it is turned.
func tellCross(c api.Cross) string {
	turned := ""
	if c.Turned {
		turned = "'"
	}
	return fmt.Sprintf("%v%c%s", c.T, 'a'+c.Leaf, turned)
}

func tellRow(row []api.Span) string {
	var l []string
	for _, s := range row {
		l = append(l, tellCross(s.In)+"-"+tellCross(s.Out))
	}
	return strings.Join(l, " ")
}

func wantRow(t *testing.T, what string, s api.Solid, r api.Ray, want string) {
	t.Helper()
	row, e := solid.Spans(s, r)
	if got := tellRow(row); e != api.OK || got != want {
		t.Errorf("Spans, %s: %q, %d, not %q", what, got, e, want)
	}
}

// Y1

func TestMay(t *testing.T) {
	b := leaf(bar(1, 2))
	for _, c := range []struct {
		what string
		s    api.Solid
		want api.Errno
	}{
		{"a ball", of(leaf(ball(v(0, 0, 0), 1))), api.OK},
		{"a block", of(b), api.OK},
		{"a tube", of(leaf(tube(v(0, 0, 0), v(0, 1, 0), 1))), api.OK},
		{"a triangle", of(leaf(api.Shape{Kind: api.Tri})), api.ErrKind},
		{"a plate", of(leaf(api.Shape{Kind: api.Plate, B: v(0, 1, 0), R: 1})), api.ErrKind},
		{"a ring", of(leaf(api.Shape{Kind: api.Ring, B: v(0, 1, 0), R: 2, Q: 1})), api.ErrKind},
		{"no kind", of(leaf(api.Shape{})), api.ErrKind},

		{"a leaf whose skin is none", of(leaf(api.Shape{Kind: api.Tri, Skin: api.MaxSkins})), api.ErrLimit},
		{"a leaf out of reach", of(leaf(ball(v(0, none, 0), -1))), api.ErrReach},
		{"a leaf of nothing", of(leaf(ball(v(0, 0, 0), 0))), api.ErrValue},
		{"a leaf whose box is out of reach", of(leaf(ball(v(api.MaxReach, 0, 0), 1))), api.ErrReach},
		{"a plate without B", of(leaf(api.Shape{Kind: api.Plate, R: 1})), api.ErrZero},
		{"a ring without Q", of(leaf(api.Shape{Kind: api.Ring, B: v(0, 1, 0), R: 2})), api.ErrValue},
		{"a leaf with a Left and a Right", of(api.Part{Left: -1, Right: 9, Shape: bar(1, 2)}), api.OK},
		{"a bad leaf that nothing is made of", of(leaf(ball(v(0, 0, 0), -1)), b), api.ErrValue},

		{"a part that is made of others, with a shape", of(b, api.Part{Op: api.Both, Shape: ball(v(none, 0, 0), -1)}), api.OK},
		{"twice of the same", of(b, made(api.Less, 0, 0)), api.OK},
		{"of later ones first", of(b, b, made(api.Both, 1, 0), made(api.Either, 2, 1)), api.OK},
		{"the first one is made of others", of(made(api.Both, 0, 0), b), api.ErrName},

		{"Op above all", of(made(4, 0, 0)), api.ErrForm},
		{"Op below all", of(made(-1, 0, 0)), api.ErrForm},
		{"the greatest Op", of(b, made(math.MaxInt, 0, 0)), api.ErrForm},
		{"the least Op", of(b, made(math.MinInt, 9, -9)), api.ErrForm},
	} {
		if got := solid.May(c.s); got != c.want {
			t.Errorf("May of %s: %d, not %d", c.what, got, c.want)
		}
	}
}

func TestMayOfLeftAndRight(t *testing.T) {
	b := leaf(bar(1, 2))
	for _, op := range ops() {
		for side, want := range map[int]api.Errno{
			0: api.OK, 1: api.OK,
			2: api.ErrName, 3: api.ErrName, 4: api.ErrName, -1: api.ErrName, math.MaxInt: api.ErrName, math.MinInt: api.ErrName,
		} {
			if e := solid.May(of(b, b, made(op, side, 0), b)); e != want {
				t.Errorf("May with Op %d of Left %d: %d, not %d", op, side, e, want)
			}
			if e := solid.May(of(b, b, made(op, 0, side), b)); e != want {
				t.Errorf("May with Op %d of Right %d: %d, not %d", op, side, e, want)
			}
		}
	}
}

func TestMayOfCountsAndSkins(t *testing.T) {
	for n, want := range map[int]api.Errno{
		0: api.ErrCount, 1: api.OK, 2: api.OK, api.MaxParts - 1: api.OK, api.MaxParts: api.OK,
		api.MaxParts + 1: api.ErrCount, 1000: api.ErrCount,
	} {
		s := of(slices.Repeat([]api.Part{leaf(bar(1, 2))}, n)...)
		if e := solid.May(s); e != want {
			t.Errorf("May of %d parts: %d, not %d", n, e, want)
		}
	}
	if e := solid.May(api.Solid{}); e != api.ErrCount {
		t.Errorf("May of no list: %d", e)
	}
	for skin, want := range map[int]api.Errno{
		0: api.OK, api.MaxSkins - 1: api.OK,
		-1: api.ErrLimit, api.MaxSkins: api.ErrLimit, math.MaxInt: api.ErrLimit, math.MinInt: api.ErrLimit,
	} {
		if e := solid.May(api.Solid{Parts: []api.Part{leaf(bar(1, 2))}, Skin: skin}); e != want {
			t.Errorf("May with the skin %d: %d, not %d", skin, e, want)
		}
	}
}

// refused: a solid that may not be, and what is said of it.
type refused struct {
	s    api.Solid
	want api.Errno
}

// allRefused: each has faults that come later, too.
func allRefused() []refused {
	plate := leaf(api.Shape{Kind: api.Plate, B: v(0, 1, 0), R: 1})
	nothing, form, name := leaf(ball(v(0, 0, 0), 0)), made(4, 0, 0), made(api.Both, 5, 5)
	good := leaf(bar(1, 2))
	return []refused{
		{api.Solid{Skin: -1}, api.ErrCount},
		{api.Solid{Parts: slices.Repeat([]api.Part{form}, api.MaxParts+1), Skin: -1}, api.ErrCount},
		{api.Solid{Parts: []api.Part{form}, Skin: -1}, api.ErrLimit},
		// Of several parts that may not be the first one's fault is told.
		{of(nothing, plate, name, form), api.ErrValue},
		{of(plate, nothing, name, form), api.ErrKind},
		{of(name, form, plate, nothing), api.ErrName},
		{of(form, name, plate, nothing), api.ErrForm},
		{of(good, name, form), api.ErrName},
		{of(leaf(api.Shape{Kind: api.Plate, R: 1}), form), api.ErrZero},
		{of(leaf(ball(v(inf, 0, 0), -1)), form), api.ErrReach},
	}
}

// badRays: rays that may not be, and what is said of them.
func badRays() map[api.Errno][]api.Ray {
	x := v(1, 0, 0)
	return map[api.Errno][]api.Ray{
		api.ErrReach: {
			ray(v(0, beyond, 0), x, 0), ray(v(0, 0, 0), v(1, none, 0), 0), ray(v(0, 0, 0), x, inf),
			ray(v(0, 0, -inf), x, 0), ray(v(0, 0, 0), v(1, 0, tiny), 0), ray(v(0, none, 0), v(0, 0, 0), -1),
		},
		api.ErrZero:  {ray(v(0, 0, 0), v(0, minus0, 0), -1)},
		api.ErrValue: {ray(v(0, 0, 0), x, -1), ray(v(0, 0, 0), x, -5e-324)},
	}
}

func wantNoRow(t *testing.T, s api.Solid, r api.Ray, want api.Errno) {
	t.Helper()
	if row, e := solid.Spans(s, r); e != want || len(row) != 0 {
		t.Errorf("Spans of %v by %v: %v, %d, not empty and %d", s, r, row, e, want)
	}
	if c, ok, e := solid.Strike(s, r); e != want || ok || c != (api.Cross{}) || !same(c.T, 0) {
		t.Errorf("Strike of %v by %v: %v, %t, %d, not 0, false and %d", s, r, c, ok, e, want)
	}
}

// All calls say first what May says.
func TestRefused(t *testing.T) {
	for _, c := range allRefused() {
		if e := solid.May(c.s); e != c.want {
			t.Errorf("May of %v: %d, not %d", c.s, e, c.want)
		}
		if b, e := solid.Bounds(c.s); e != c.want || b != (api.Box{}) {
			t.Errorf("Bounds of %v: %v, %d, not 0 and %d", c.s, b, e, c.want)
		}
		wantNoRow(t, c.s, along(0), c.want)
		for _, rays := range badRays() {
			for _, r := range rays {
				wantNoRow(t, c.s, r, c.want)
			}
		}
		for _, at := range []api.Cross{{}, {Turned: true}, {Leaf: -1}} {
			if n, e := solid.Normal(c.s, at, v(none, 0, 0)); e != c.want || !sameVec(n, v(0, 0, 0)) {
				t.Errorf("Normal of %v: %v, %d, not 0 and %d", c.s, n, e, c.want)
			}
		}
	}
}

func TestBadRays(t *testing.T) {
	for want, rays := range badRays() {
		for _, r := range rays {
			wantNoRow(t, of(leaf(bar(-1, 2))), r, want)
			wantNoRow(t, two(api.Either, bar(-1, 2), bar(3, 4)), r, want)
		}
	}
}

// Y2

func TestBounds(t *testing.T) {
	a, b := block(v(-1, 2, 3), v(1, 4, 9)), block(v(0, -5, 4), v(6, 3, 5))
	around := api.Box{Lo: v(-1, -5, 3), Hi: v(6, 4, 9)}
	n := block(v(minus0, 0, minus0), v(0, minus0, minus0))
	m := block(v(0, minus0, 0), v(minus0, 0, 0))
	for _, c := range []struct {
		what string
		s    api.Solid
		want api.Box
	}{
		{"a ball", of(leaf(ball(v(1, 2, 3), 2))), api.Box{Lo: v(-1, 0, 1), Hi: v(3, 4, 5)}},
		{"a tube", of(leaf(tube(v(1, 2, 3), v(0, 0, -4), 0.5))), api.Box{Lo: v(0.5, 1.5, -1), Hi: v(1.5, 2.5, 3)}},
		{"a block", of(leaf(a)), api.Box{Lo: a.A, Hi: a.B}},
		{"Both", two(api.Both, a, b), api.Box{Lo: a.A, Hi: a.B}},
		{"Both, the other way about", two(api.Both, b, a), api.Box{Lo: b.A, Hi: b.B}},
		{"Less", two(api.Less, a, b), api.Box{Lo: a.A, Hi: a.B}},
		{"Less of itself", of(leaf(a), made(api.Less, 0, 0)), api.Box{Lo: a.A, Hi: a.B}},
		{"Either", two(api.Either, a, b), around},
		{"Either, the other way about", two(api.Either, b, a), around},
		{"Either of noughts: Left's", two(api.Either, n, m), api.Box{Lo: n.A, Hi: n.B}},
		{"Either of noughts, the other way about", two(api.Either, m, n), api.Box{Lo: m.A, Hi: m.B}},
		{"the last one is a leaf", of(leaf(a), made(api.Less, 0, 0), leaf(b)), api.Box{Lo: b.A, Hi: b.B}},
		{"Both of Either", of(leaf(a), leaf(b), made(api.Either, 0, 1), made(api.Both, 2, 0)), around},
		{"Less of Either", of(leaf(a), leaf(b), made(api.Either, 0, 1), made(api.Less, 2, 1)), around},
		{"Either of Both and Less", of(leaf(a), leaf(b), made(api.Both, 0, 1), made(api.Less, 1, 0), made(api.Either, 2, 3)), around},
		{"Less by what is greater", of(leaf(a), leaf(b), made(api.Either, 0, 1), made(api.Less, 0, 2)), api.Box{Lo: a.A, Hi: a.B}},
	} {
		b, e := solid.Bounds(c.s)
		if e != api.OK || !sameVec(b.Lo, c.want.Lo) || !sameVec(b.Hi, c.want.Hi) {
			t.Errorf("Bounds of %s: %v, %d, not %v", c.what, b, e, c.want)
		}
	}
}

// Y4

// wantStruck: what Strike tells, as tellCross; empty: nothing.
func wantStruck(t *testing.T, what string, s api.Solid, r api.Ray, want string) {
	t.Helper()
	c, ok, e := solid.Strike(s, r)
	got := ""
	if ok {
		got = tellCross(c)
	} else if c != (api.Cross{}) || !same(c.T, 0) {
		t.Errorf("Strike, %s: false with %v", what, c)
	}
	if e != api.OK || got != want {
		t.Errorf("Strike, %s: %q, %d, not %q", what, got, e, want)
	}
}

func TestStrikeFromLeastOn(t *testing.T) {
	s := two(api.Less, bar(2, 6), bar(3, 5))
	wantRow(t, "which are struck", s, along(0), "2a-3b' 5b'-6a")
	for _, c := range []struct {
		least float64
		want  string
	}{
		{0, "2a"}, {minus0, "2a"}, {5e-324, "2a"}, {1, "2a"}, {ahead(2), "2a"}, {2, "2a"},
		{next(2), "3b'"}, {2.5, "3b'"}, {3, "3b'"},
		{next(3), "5b'"}, {4, "5b'"}, {5, "5b'"},
		{next(5), "6a"}, {5.5, "6a"}, {6, "6a"},
		{next(6), ""}, {7, ""}, {api.MaxReach, ""},
	} {
		wantStruck(t, fmt.Sprint("Least ", c.least), s, along(c.least), c.want)
		wantRow(t, fmt.Sprint("whatever Least is: ", c.least), s, along(c.least), "2a-3b' 5b'-6a")
	}
}

func TestStrikeFromAnywhere(t *testing.T) {
	s := two(api.Less, bar(2, 6), bar(3, 5))
	z := v(0, 0, 1)
	for _, c := range []struct {
		what   string
		r      api.Ray
		row, t string
	}{
		{"from where it begins: an In at 0 is none", ray(v(0, 0, 2), z, 0), "0a-1b' 3b'-4a", "1b'"},
		{"from within", ray(v(0, 0, 2.5), z, 0), "0a-0.5b' 2.5b'-3.5a", "0.5b'"},
		{"from within, from beyond the piece on", ray(v(0, 0, 2.5), z, 0.75), "0a-0.5b' 2.5b'-3.5a", "2.5b'"},
		{"from the hole's surface", ray(v(0, 0, 3), z, 0), "2b'-3a", "2b'"},
		{"from within the hole", ray(v(0, 0, 4), z, 0), "1b'-2a", "1b'"},
		{"from the hole's other surface", ray(v(0, 0, 5), z, 0), "0a-1a", "1a"},
		{"from where it ends", ray(v(0, 0, 6), z, 0), "", ""},
		{"from behind", ray(v(0, 0, 9), z, 0), "", ""},
		{"from the other side", ray(v(0, 0, 9), v(0, 0, -1), 0), "3a-4b' 6b'-7a", "3a"},
		{"with a longer direction", ray(v(0, 0, 0), v(0, 0, 2), 0), "1a-1.5b' 2.5b'-3a", "1a"},
		{"beside it", ray(v(1.5, 0, 0), z, 0), "", ""},
		{"across it", ray(v(-3, 0, 2.5), v(1, 0, 0), 0), "2a-4a", "2a"},
		{"across the hole", ray(v(-3, 0, 4), v(1, 0, 0), 0), "", ""},
		{"along the hole's surface", ray(v(-3, 0, 3), v(1, 0, 0), 0), "", ""},
		{"as far as a ray is followed", ray(v(0, 0, -api.MaxReach+2.5), v(0, 0, 1/api.MaxReach), 0), "9.999995e+11a-1e+12a", "9.999995e+11a"},
	} {
		wantRow(t, c.what, s, c.r, c.row)
		wantStruck(t, c.what, s, c.r, c.t)
	}
}

func TestStrikeOrdinary(t *testing.T) {
	b := ball(v(0, 0, 0), 5)
	pipe := tube(v(-9, 0, 0), v(18, 0, 0), 4)
	side := ray(v(-10, 3, 0), v(1, 0, 0), 0)
	for _, c := range []struct {
		what string
		s    api.Solid
		r    api.Ray
		want string
	}{
		{"a ball", of(leaf(b)), side, "6a"},
		{"a ball, from within", of(leaf(b)), ray(v(0, 3, 0), v(1, 0, 0), 0), "4a"},
		{"a tube", of(leaf(pipe)), side, "1a"},
		{"a drilled ball, in the hole", two(api.Less, b, pipe), side, ""},
		{"a drilled ball, beside the hole", two(api.Less, b, tube(v(-9, 0, 0), v(18, 0, 0), 2)), side, "6a"},
		{"a ball in a tube", two(api.Both, b, pipe), side, "6a"},
		{"a tube in a ball", two(api.Both, pipe, b), side, "6b"},
		{"a ball on a tube", two(api.Either, b, pipe), side, "1b"},
		{"a tube beyond a ball", two(api.Less, pipe, b), side, "1a"},
		{"a tube beyond a ball, from within it", two(api.Less, pipe, b), ray(v(0, 3, 0), v(1, 0, 0), 0), "4b'"},
		{"a corner of a ball's box", of(leaf(b)), ray(v(4, 4, -10), v(0, 0, 1), 0), ""},
		{"two that don't meet", two(api.Both, bar(1, 2), bar(3, 4)), along(0), ""},
		{"what is wholly cut away", two(api.Less, bar(2, 3), bar(1, 4)), along(0), ""},
	} {
		wantStruck(t, c.what, c.s, c.r, c.want)
	}
}

func TestNormal(t *testing.T) {
	s := of(leaf(ball(v(1, 1, 1), 2)), leaf(block(v(0, 0, 0), v(4, 4, 4))), leaf(tube(v(0, 0, 0), v(0, 3, 0), 1)),
		made(api.Both, 0, 1), made(api.Less, 3, 2), leaf(ball(v(9, 9, 9), 1)), made(api.Either, 4, 3))
	for _, c := range []struct {
		leaf         int
		p            api.Vec
		want, turned api.Vec
	}{
		{0, v(4, 5, 1), v(0.6, 0.8, 0), v(-0.6, -0.8, minus0)},
		{0, v(1, 1, 1), v(0, 0, 0), v(minus0, minus0, minus0)},
		{1, v(3.5, 2, 2), v(1, 0, 0), v(-1, minus0, minus0)},
		{1, v(2, 2, 0.5), v(0, 0, -1), v(minus0, minus0, 1)},
		{2, v(0.6, 1, 0.8), v(0.6, 0, 0.8), v(-0.6, minus0, -0.8)},
		{2, v(0, 2.75, 0.5), v(0, 1, 0), v(minus0, -1, minus0)},
		// Nothing that is seen is made of it.
		{5, v(9, 9, 8), v(0, 0, -1), v(minus0, minus0, 1)},
	} {
		for _, at := range []float64{0, 1, none, -inf} {
			n, e := solid.Normal(s, api.Cross{T: at, Leaf: c.leaf}, c.p)
			if e != api.OK || !sameVec(n, c.want) {
				t.Errorf("Normal of leaf %d at %v: %v, %d, not %v", c.leaf, c.p, n, e, c.want)
			}
			n, e = solid.Normal(s, api.Cross{T: at, Leaf: c.leaf, Turned: true}, c.p)
			if e != api.OK || !sameVec(n, c.turned) {
				t.Errorf("Normal of leaf %d at %v, turned: %v, %d, not %v", c.leaf, c.p, n, e, c.turned)
			}
		}
	}
}

func TestNormalRefuses(t *testing.T) {
	s := two(api.Less, bar(1, 4), bar(2, 3))
	bad := []api.Vec{v(beyond, 0, 0), v(0, -beyond, 0), v(0, 0, none), v(inf, 0, 0), v(0, 0, -inf)}
	for _, turned := range []bool{false, true} {
		for _, p := range append(bad, v(0, 0, 1)) {
			for _, number := range []int{2, 3, -1, api.MaxParts, math.MaxInt, math.MinInt} {
				n, e := solid.Normal(s, api.Cross{T: 1, Leaf: number, Turned: turned}, p)
				if e != api.ErrName || !sameVec(n, v(0, 0, 0)) {
					t.Errorf("Normal of %d at %v: %v, %d, not 0 and ErrName", number, p, n, e)
				}
			}
		}
		for _, p := range bad {
			n, e := solid.Normal(s, api.Cross{T: 1, Leaf: 1, Turned: turned}, p)
			if e != api.ErrReach || !sameVec(n, v(0, 0, 0)) {
				t.Errorf("Normal at %v, turned %t: %v, %d, not 0 and ErrReach", p, turned, n, e)
			}
		}
	}
}

// Nothing that is handed in is written into, and what comes out is the caller's.
func TestListsAreOnesOwn(t *testing.T) {
	s := of(leaf(bar(1, 9)), leaf(bar(3, 5)), made(api.Less, 0, 1), made(api.Either, 2, 2))
	before := slices.Clone(s.Parts)
	row, _ := solid.Spans(s, along(0))
	clear(row[:cap(row)])
	wantRow(t, "again", s, along(0), "1a-3b' 5b'-9a")
	solid.Strike(s, along(0))
	solid.Bounds(s)
	solid.Normal(s, api.Cross{Leaf: 1, Turned: true}, v(0, 0, 3))
	if !slices.Equal(s.Parts, before) {
		t.Errorf("the parts became %v", s.Parts)
	}
}

// What a leaf's span is, shape.Within says.
func TestLeafIsWithin(t *testing.T) {
	d := die(3)
	some := 0
	for range 2000 {
		b, r := d.body(), d.aimed()
		in, out, ok, _ := shape.Within(b, r)
		row, e := solid.Spans(of(leaf(bar(8, 9)), leaf(b)), r)
		if e != api.OK || len(row) > 1 || ok != (len(row) == 1) {
			t.Fatalf("Spans of %v by %v: %v, %d", b, r, row, e)
		}
		if !ok {
			continue
		}
		some++
		want := api.Span{In: api.Cross{T: in, Leaf: 1}, Out: api.Cross{T: out, Leaf: 1}}
		if row[0] != want || !same(row[0].In.T, in) {
			t.Fatalf("Spans of %v by %v: %v, not %v", b, r, row, want)
		}
	}
	if some < 200 {
		t.Errorf("only %d rays are within: the test tells little", some)
	}
}
