package tree_test

import (
	"fmt"
	"math"
	"slices"
	"testing"

	"rayhouse/api"
	"rayhouse/field"
	"rayhouse/shape"
	"rayhouse/slab"
	"rayhouse/solid"
	"rayhouse/tree"
)

var (
	minus0 = math.Copysign(0, -1)
	inf    = math.Inf(1)
	none   = math.NaN()
	beyond = math.Nextafter(api.MaxReach, inf)
	tiny   = math.Nextafter(1/api.MaxReach, 0)
)

// same: the same bits; of floats that are no number it does not matter which one it is.
func same(a, b float64) bool {
	return math.Float64bits(a) == math.Float64bits(b) || a != a && b != b
}

func sameVec(a, b api.Vec) bool {
	return same(a.X, b.X) && same(a.Y, b.Y) && same(a.Z, b.Z)
}

func sameFound(a, b api.Found) bool {
	return a.Which == b.Which && a.Piece == b.Piece && a.Turned == b.Turned && same(a.T, b.T)
}

func v(x, y, z float64) api.Vec {
	return api.Vec{X: x, Y: y, Z: z}
}

func ray(from, dir api.Vec, least float64) api.Ray {
	return api.Ray{From: from, Dir: dir, Least: least}
}

// along: from 0 along Z.
func along(least float64) api.Ray {
	return ray(v(0, 0, 0), v(0, 0, 1), least)
}

// next: the next float above x.
func next(x float64) float64 {
	return math.Nextafter(x, inf)
}

// ahead: the next float below x.
func ahead(x float64) float64 {
	return math.Nextafter(x, -inf)
}

func ball(a api.Vec, r float64) api.Shape {
	return api.Shape{Kind: api.Ball, A: a, R: r}
}

func block(a, b api.Vec) api.Shape {
	return api.Shape{Kind: api.Block, A: a, B: b}
}

func triangle(a, b, c api.Vec) api.Shape {
	return api.Shape{Kind: api.Tri, A: a, B: b, C: c}
}

func plate(a, b api.Vec, r float64) api.Shape {
	return api.Shape{Kind: api.Plate, A: a, B: b, R: r}
}

func tube(a, b api.Vec, r float64) api.Shape {
	return api.Shape{Kind: api.Tube, A: a, B: b, R: r}
}

func ring(a, b api.Vec, r, q float64) api.Shape {
	return api.Shape{Kind: api.Ring, A: a, B: b, R: r, Q: q}
}

// bar: a block about the axis Z: a ray from 0 along Z is within it from lo to hi.
func bar(lo, hi float64) api.Shape {
	return block(v(-1, -1, lo), v(1, 1, hi))
}

func leaf(s api.Shape) api.Part {
	return api.Part{Shape: s}
}

func of(parts ...api.Part) api.Solid {
	return api.Solid{Parts: parts}
}

// two: a solid of two shapes.
func two(op int, a, b api.Shape) api.Solid {
	return of(leaf(a), leaf(b), api.Part{Op: op, Left: 0, Right: 1})
}

// flat: a field of w by h points without heights, 1 apart.
func flat(w, h int, at api.Vec) api.Field {
	return api.Field{W: w, H: h, At: at, Side: 1, High: make([]int, w*h)}
}

// all: what a tree is built of.
type all struct {
	shapes []api.Shape
	solids []api.Solid
	fields []api.Field
}

func (a all) count() int {
	return len(a.shapes) + len(a.solids) + len(a.fields)
}

// own: the same things, of which nothing is shared.
func (a all) own() all {
	b := all{shapes: slices.Clone(a.shapes), solids: slices.Clone(a.solids), fields: slices.Clone(a.fields)}
	for i, s := range b.solids {
		b.solids[i].Parts = slices.Clone(s.Parts)
	}
	for i, f := range b.fields {
		b.fields[i].High = slices.Clone(f.High)
	}
	return b
}

func (a all) build(t *testing.T) *tree.Tree {
	t.Helper()
	grown, e := tree.Build(a.shapes, a.solids, a.fields)
	if e != api.OK || grown == nil {
		t.Fatalf("Build of %v: %v, %d", a, grown, e)
	}
	return grown
}

// strike: what a ray strikes of one thing, by Strike of its kind; its number isn't told.
func (a all) strike(which int, r api.Ray) (api.Found, bool) {
	if which < len(a.shapes) {
		t, ok, _ := shape.Strike(a.shapes[which], r)
		return api.Found{T: t}, ok
	}
	which -= len(a.shapes)
	if which < len(a.solids) {
		c, ok, _ := solid.Strike(a.solids[which], r)
		return api.Found{Piece: c.Leaf, Turned: c.Turned, T: c.T}, ok
	}
	piece, t, ok, _ := field.Strike(a.fields[which-len(a.solids)], r)
	return api.Found{Piece: piece, T: t}, ok
}

// oneByOne: what Nearest should tell: all things are looked at, from the first one on. And how many are struck.
func (a all) oneByOne(r api.Ray) (found api.Found, struck int) {
	found = api.Found{Which: -1}
	for i := range a.count() {
		f, ok := a.strike(i, r)
		if !ok {
			continue
		}
		struck++
		if found.Which < 0 || f.T < found.T {
			found = f
			found.Which = i
		}
	}
	return found, struck
}

// die: numbers that look drawn, the same each time.
type die uint64

func (d *die) n(most int) int {
	*d = *d*6364136223846793005 + 1442695040888963407
	return int(uint64(*d>>33) % uint64(most))
}

// number: from -most to most; the more often the same, the coarser it is: in halves, or with many bits.
func (d *die) number(most float64, coarse bool) float64 {
	if coarse {
		return float64(d.n(int(4*most)+1))/2 - most
	}
	*d = *d*6364136223846793005 + 1442695040888963407
	return (float64(uint64(*d)>>11)/(1<<52) - 1) * most
}

func (d *die) point(most float64, coarse bool) api.Vec {
	return v(d.number(most, coarse), d.number(most, coarse), d.number(most, coarse))
}

// size: above 0.
func (d *die) size(coarse bool) float64 {
	if coarse {
		return float64(1+d.n(4)) / 2
	}
	return 1.01 + d.number(1, false)
}

func (d *die) axis() api.Vec {
	return []api.Vec{v(1, 0, 0), v(0, -1.5, 0), v(0, 0, 2)}[d.n(3)]
}

func (d *die) shape(kind int, coarse bool) api.Shape {
	a, r := d.point(4, coarse), d.size(coarse)
	s := api.Shape{Kind: kind, A: a, R: r, Skin: d.n(api.MaxSkins)}
	switch kind {
	case api.Block:
		s.B = v(a.X+d.size(coarse)-0.5*float64(d.n(2)), a.Y+r, a.Z+float64(d.n(2)))
		if s.B.X < a.X {
			s.B.X = a.X
		}
	case api.Tri:
		s.B, s.C = d.point(4, coarse), d.point(4, coarse)
	case api.Plate:
		s.B = v(1, 0, 0)
		if d.n(3) > 0 {
			s.B = v(d.number(2, coarse), 1, d.number(2, coarse))
		}
	case api.Tube:
		s.B = d.axis()
	case api.Ring:
		s.B, s.Q = d.axis(), r/2
	}
	return s
}

func (d *die) solid(coarse bool) api.Solid {
	n := 1 + d.n(4)
	s := api.Solid{Skin: d.n(api.MaxSkins)}
	for range n {
		s.Parts = append(s.Parts, leaf(d.shape([]int{api.Ball, api.Block, api.Tube}[d.n(3)], coarse)))
	}
	for range n - 1 {
		s.Parts = append(s.Parts, api.Part{Op: 1 + d.n(3), Left: d.n(len(s.Parts)), Right: d.n(len(s.Parts))})
	}
	return s
}

func (d *die) field(coarse bool) api.Field {
	f := api.Field{W: 2 + d.n(7), H: 2 + d.n(7), At: d.point(3, coarse), Side: d.size(coarse), Skin: d.n(api.MaxSkins)}
	most := []int{0, 1, 4}[d.n(3)]
	for range f.W * f.H {
		f.High = append(f.High, 500*(d.n(2*most+1)-most))
	}
	return f
}

// things: up to so many of each kind; now and then the same one again.
func (d *die) things(shapes, solids, fields int) all {
	var a all
	coarse := d.n(2) == 0
	for range d.n(shapes + 1) {
		if len(a.shapes) > 0 && d.n(8) == 0 {
			a.shapes = append(a.shapes, a.shapes[d.n(len(a.shapes))])
			continue
		}
		a.shapes = append(a.shapes, d.shape(1+d.n(6), coarse))
	}
	for range d.n(solids + 1) {
		a.solids = append(a.solids, d.solid(coarse))
	}
	for range d.n(fields + 1) {
		a.fields = append(a.fields, d.field(coarse))
	}
	return a
}

// target: a point of one of the things, or beside it.
func (d *die) target(a all) api.Vec {
	which := d.n(a.count() + 1)
	if which < len(a.shapes) {
		return a.shapes[which].A
	}
	which -= len(a.shapes)
	if which < len(a.solids) {
		return a.solids[which].Parts[0].Shape.A
	}
	which -= len(a.solids)
	if which < len(a.fields) {
		f := a.fields[which]
		i, k := d.n(f.W), d.n(f.H)
		return v(f.At.X+float64(float64(i)*f.Side), f.At.Y+float64(f.High[k*f.W+i])/1000, f.At.Z+float64(float64(k)*f.Side))
	}
	return d.point(4, true)
}

// aimed: a ray from somewhere to one of the things, now and then a little beside it, or along an axis.
func (d *die) aimed(a all) api.Ray {
	coarse := d.n(2) == 0
	from, to := d.point([]float64{4, 12}[d.n(2)], coarse), d.target(a)
	if d.n(2) == 0 {
		by := d.point(1, coarse)
		to = v(to.X+by.X, to.Y+by.Y, to.Z+by.Z)
	}
	dir := v(to.X-from.X, to.Y-from.Y, to.Z-from.Z)
	if d.n(3) == 0 {
		from = to
		dir = v(0, 0, 0)
		way := []float64{1, -1, 0.5}[d.n(3)]
		far := -way * float64(d.n(12))
		switch d.n(3) {
		case 0:
			dir.X, from.X = way, from.X+far
		case 1:
			dir.Y, from.Y = way, from.Y+far
		default:
			dir.Z, from.Z = way, from.Z+far
		}
	}
	if slab.Fine(ray(from, dir, 0)) != api.OK {
		dir = v(0, 2, 0)
	}
	return ray(from, dir, []float64{0, 0, minus0, 0.25, 1, 3}[d.n(6)])
}

// B1

func TestBuildLimits(t *testing.T) {
	thing, bad := ball(v(0, 0, 5), 1), ball(v(none, 0, 0), 1)
	body, ground := of(leaf(thing)), flat(2, 2, v(0, 0, 0))
	for _, c := range []struct {
		shapes, solids, fields int
		want                   api.Errno
	}{
		{0, 0, 0, api.OK},
		{1, 0, 0, api.OK}, {0, 1, 0, api.OK}, {0, 0, 1, api.OK},
		{api.MaxShapes, 0, 0, api.OK}, {0, api.MaxSolids, 0, api.OK}, {0, 0, api.MaxFields, api.OK},
		{api.MaxShapes, api.MaxSolids, api.MaxFields, api.OK},
		{api.MaxShapes + 1, 0, 0, api.ErrLimit}, {0, api.MaxSolids + 1, 0, api.ErrLimit}, {0, 0, api.MaxFields + 1, api.ErrLimit},
		{1000, 1000, 1000, api.ErrLimit},
	} {
		shapes, solids := slices.Repeat([]api.Shape{thing}, c.shapes), slices.Repeat([]api.Solid{body}, c.solids)
		fields := slices.Repeat([]api.Field{ground}, c.fields)
		grown, e := tree.Build(shapes, solids, fields)
		if e != c.want || (grown == nil) != (e != api.OK) {
			t.Errorf("Build of %d, %d, %d: %v, %d, not %d", c.shapes, c.solids, c.fields, grown, e, c.want)
		}
		if c.want == api.OK {
			continue
		}
		// That there are too many is said ahead of what is wrong with the first one.
		if grown, e := tree.Build(append([]api.Shape{bad}, shapes...), solids, fields); e != api.ErrLimit || grown != nil {
			t.Errorf("Build of %d, %d, %d, and a bad one: %v, %d, not ErrLimit", c.shapes+1, c.solids, c.fields, grown, e)
		}
	}
}

// Of each kind the first one that may not be is told; of shapes ahead of solids, of these ahead of fields.
func TestBuildRefuses(t *testing.T) {
	good, nothing, kind := bar(1, 2), ball(v(0, 0, 0), 0), api.Shape{Kind: 7}
	far, skin := ball(v(api.MaxReach, 0, 0), 1), api.Shape{Kind: 9, Skin: api.MaxSkins, R: none}
	zero := plate(v(0, 0, 0), v(0, minus0, 0), 1)
	body, empty := of(leaf(good)), of()
	name, form := of(leaf(good), api.Part{Op: api.Both, Left: 1}), of(api.Part{Op: 4})
	ground, short, wide := flat(2, 2, v(0, 0, 0)), api.Field{W: 2, H: 2, Side: 1}, flat(9, 2, v(0, 0, 0))
	high, point := flat(2, 2, v(0, 0, 0)), flat(2, 2, v(0, 0, 0))
	high.High[3] = api.MaxWhole + 1
	point.Side = minus0
	for i, c := range []struct {
		all
		want api.Errno
	}{
		{all{shapes: []api.Shape{nothing}}, api.ErrValue},
		{all{shapes: []api.Shape{good, good, kind, nothing}}, api.ErrKind},
		{all{shapes: []api.Shape{good, nothing, kind}}, api.ErrValue},
		{all{shapes: []api.Shape{far, nothing}}, api.ErrReach},
		{all{shapes: []api.Shape{skin, nothing}}, api.ErrLimit},
		{all{shapes: []api.Shape{zero}}, api.ErrZero},
		{all{shapes: slices.Concat(slices.Repeat([]api.Shape{good}, api.MaxShapes-1), []api.Shape{kind})}, api.ErrKind},
		{all{solids: []api.Solid{empty}}, api.ErrCount},
		{all{solids: []api.Solid{body, name, empty}}, api.ErrName},
		{all{solids: []api.Solid{form, name}}, api.ErrForm},
		{all{solids: []api.Solid{of(leaf(triangle(v(0, 0, 0), v(1, 0, 0), v(0, 1, 0))))}}, api.ErrKind},
		{all{solids: slices.Concat(slices.Repeat([]api.Solid{body}, api.MaxSolids-1), []api.Solid{empty})}, api.ErrCount},
		{all{fields: []api.Field{wide}}, api.ErrLimit},
		{all{fields: []api.Field{ground, short}}, api.ErrCount},
		{all{fields: []api.Field{high, short}}, api.ErrValue},
		{all{fields: []api.Field{point}}, api.ErrValue},
		{all{fields: []api.Field{flat(2, 2, v(0, 0, -inf))}}, api.ErrReach},
		{all{[]api.Shape{good, kind}, []api.Solid{empty}, []api.Field{wide}}, api.ErrKind},
		{all{[]api.Shape{good, good}, []api.Solid{body, form}, []api.Field{wide}}, api.ErrForm},
		{all{[]api.Shape{good, good}, []api.Solid{body, body}, []api.Field{ground, wide}}, api.ErrLimit},
	} {
		if grown, e := tree.Build(c.shapes, c.solids, c.fields); e != c.want || grown != nil {
			t.Errorf("%d: Build: %v, %d, not nil and %d", i, grown, e, c.want)
		}
	}
}

func TestBuildOfSkins(t *testing.T) {
	for skin, want := range map[int]api.Errno{0: api.OK, api.MaxSkins - 1: api.OK, api.MaxSkins: api.ErrLimit, -1: api.ErrLimit} {
		s, b, g := bar(1, 2), of(leaf(bar(1, 2))), flat(2, 2, v(0, 0, 0))
		s.Skin, b.Skin, g.Skin = skin, skin, skin
		for i, a := range []all{{shapes: []api.Shape{s}}, {solids: []api.Solid{b}}, {fields: []api.Field{g}}} {
			if _, e := tree.Build(a.shapes, a.solids, a.fields); e != want {
				t.Errorf("Build of kind %d with the skin %d: %d, not %d", i, skin, e, want)
			}
		}
	}
}

// Shapes, then solids, then fields.
func TestNumbers(t *testing.T) {
	var a all
	var above []api.Vec
	at := func(x, y float64) api.Vec {
		above = append(above, v(x+0.25, y+2, 0.25))
		return v(x, y, 0)
	}
	top := func(p api.Vec) api.Shape { return block(v(p.X, p.Y-1, 0), v(p.X+1, p.Y, 1)) }
	for i := range 5 {
		s := top(at(float64(10*i), 0))
		s.Skin = i
		a.shapes = append(a.shapes, s)
	}
	for i := range 3 {
		s := of(leaf(top(at(float64(10*i), 10))))
		s.Skin = 5 + i
		a.solids = append(a.solids, s)
	}
	for i := range 2 {
		f := flat(2, 2, at(float64(10*i), 20))
		f.Skin = 8 + i
		a.fields = append(a.fields, f)
	}
	grown := a.build(t)
	for i, from := range above {
		f, e := grown.Nearest(ray(from, v(0, -0.5, 0), 0))
		if want := (api.Found{Which: i, T: 4}); e != api.OK || !sameFound(f, want) {
			t.Errorf("straight down from %v: %v, %d, not %v", from, f, e, want)
		}
		if _, skin, e := grown.Normal(f, from); e != api.OK || skin != i {
			t.Errorf("the skin of thing %d: %d, %d", i, skin, e)
		}
	}
}

func (d *die) rays(a all, count int) []api.Ray {
	var l []api.Ray
	for range count {
		l = append(l, d.aimed(a))
	}
	return l
}

// tell: what a tree answers to many rays.
func tell(grown *tree.Tree, rays []api.Ray) string {
	text := ""
	for _, r := range rays {
		f, e := grown.Nearest(r)
		n, skin, g := grown.Normal(f, r.From)
		any, h := grown.Any(r, 5)
		text += fmt.Sprint(f, e, n, skin, g, any, h, ";")
	}
	return text
}

// Whatever is done with the lists later, and with what stands behind them, the tree stays; and Build leaves them as they are.
func TestNothingIsKept(t *testing.T) {
	d := die(3)
	for range 20 {
		a := d.things(12, 4, 2)
		rays := d.rays(a, 100)
		before := a.own()
		grown := a.build(t)
		if fmt.Sprint(a) != fmt.Sprint(before) {
			t.Fatalf("Build made %v of %v", a, before)
		}
		want := tell(grown, rays)
		for i := range a.shapes {
			a.shapes[i] = bar(-1, 9)
		}
		for i := range a.solids {
			for k := range a.solids[i].Parts {
				a.solids[i].Parts[k] = leaf(bar(-1, 9))
			}
			a.solids[i] = api.Solid{}
		}
		for i := range a.fields {
			for k := range a.fields[i].High {
				a.fields[i].High[k] += 777
			}
			a.fields[i].Skin = 99
		}
		if got := tell(grown, rays); got != want {
			t.Fatalf("another tree, once the lists are others: %s, not %s", got, want)
		}
		if got := tell(before.build(t), rays); got != want {
			t.Fatalf("another tree of the same things: %s, not %s", got, want)
		}
	}
}

// A tree that was refused can be asked: it has no things.
func TestNoTree(t *testing.T) {
	grown, e := tree.Build([]api.Shape{{}}, nil, nil)
	if e != api.ErrKind || grown != nil {
		t.Fatalf("Build of a shape of no kind: %v, %d", grown, e)
	}
	wantNothing(t, "no tree", grown, along(0), api.OK)
	wantNothing(t, "no tree", grown, ray(v(0, 0, 0), v(0, 0, 0), 0), api.ErrZero)
	wantNoNormal(t, "no tree", grown, api.Found{}, v(0, 0, 0), api.ErrName)
}
