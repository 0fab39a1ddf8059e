package solid_test

import (
	"testing"

	"rayhouse/api"
	"rayhouse/shape"
	"rayhouse/solid"
)

// Y3

func TestSpansOfTwo(t *testing.T) {
	for _, c := range []struct {
		what               string
		lo, hi             float64 // of b; a is from 2 to 6
		both, either, less string
	}{
		{"behind", 8, 9, "", "2a-6a 8b-9b", "2a-6a"},
		{"ahead", 0.5, 1, "", "0.5b-1b 2a-6a", "2a-6a"},
		{"ends where it begins", 1, 2, "", "1b-6a", "2a-6a"},
		{"ends just ahead of it", 1, ahead(2), "", "1b-1.9999999999999998b 2a-6a", "2a-6a"},
		{"ends just behind its beginning", 1, next(2), "2a-2.0000000000000004b", "1b-6a", "2.0000000000000004b'-6a"},
		{"begins where it ends", 6, 8, "", "2a-8b", "2a-6a"},
		{"begins just behind it", next(6), 8, "", "2a-6a 6.000000000000001b-8b", "2a-6a"},
		{"begins just ahead of its end", ahead(6), 8, "5.999999999999999b-6a", "2a-8b", "2a-5.999999999999999b'"},
		{"covers it", 1, 8, "2a-6a", "1b-8b", ""},
		{"lies within it", 3, 5, "3b-5b", "2a-6a", "2a-3b' 5b'-6a"},
		{"cuts its beginning", 1, 4, "2a-4b", "1b-6a", "4b'-6a"},
		{"cuts its end", 4, 8, "4b-6a", "2a-8b", "2a-4b'"},
		{"is the same", 2, 6, "2a-6a", "2a-6a", ""},
		{"the same In, an earlier Out", 2, 4, "2a-4b", "2a-6a", "4b'-6a"},
		{"the same In, a later Out", 2, 8, "2a-6a", "2a-8b", ""},
		{"the same Out, a later In", 4, 6, "4b-6a", "2a-6a", "2a-4b'"},
		{"the same Out, an earlier In", 1, 6, "2a-6a", "1b-6b", ""},
	} {
		a, b := bar(2, 6), bar(c.lo, c.hi)
		wantRow(t, "Both: "+c.what, two(api.Both, a, b), along(0), c.both)
		wantRow(t, "Either: "+c.what, two(api.Either, a, b), along(0), c.either)
		wantRow(t, "Less: "+c.what, two(api.Less, a, b), along(0), c.less)
	}
}

// A ray that begins within both: both In are at 0.
func TestSpansFromWithin(t *testing.T) {
	a, b := bar(-5, 6), bar(-3, 4)
	wantRow(t, "Both", two(api.Both, a, b), along(0), "0a-4b")
	wantRow(t, "Both, the other way about", two(api.Both, b, a), along(0), "0a-4a")
	wantRow(t, "Either", two(api.Either, a, b), along(0), "0a-6a")
	wantRow(t, "Either, the other way about", two(api.Either, b, a), along(0), "0a-6b")
	wantRow(t, "Less", two(api.Less, a, b), along(0), "4b'-6a")
	wantRow(t, "Less, the other way about", two(api.Less, b, a), along(0), "")
}

func TestSpansOfMany(t *testing.T) {
	both, either, less := api.Both, api.Either, api.Less
	wide, mid, thin, core := leaf(bar(1, 9)), leaf(bar(2, 8)), leaf(bar(3, 7)), leaf(bar(4, 6))
	bars := func(lo, hi float64) api.Part { return leaf(bar(lo, hi)) }
	for _, c := range []struct {
		what string
		s    api.Solid
		want string
	}{
		{"one leaf", of(wide), "1a-9a"},
		{"only the last one counts", of(wide, made(less, 0, 0), core), "4c-6c"},
		{"Both of itself", of(wide, made(both, 0, 0)), "1a-9a"},
		{"Either of itself", of(wide, made(either, 0, 0)), "1a-9a"},
		{"Less of itself", of(wide, made(less, 0, 0)), ""},
		{"of one that is nowhere", of(wide, made(less, 0, 0), made(either, 1, 0), made(less, 2, 1), made(both, 3, 1)), ""},
		{"two holes", of(wide, bars(2, 3), bars(5, 6), made(either, 2, 1), made(less, 0, 3)), "1a-2b' 3b'-5c' 6c'-9a"},
		{"two holes that touch", of(wide, bars(2, 4), bars(4, 6), made(either, 1, 2), made(less, 0, 3)), "1a-2b' 6c'-9a"},
		{"a hole, and one from its end on", of(wide, bars(3, 5), bars(5, 7), made(less, 0, 1), made(less, 3, 2)), "1a-3b' 7c'-9a"},
		{"a hole, and one up to its beginning", of(wide, bars(3, 5), bars(2, 3), made(less, 0, 1), made(less, 3, 2)), "1a-2c' 5b'-9a"},
		{"a hole, and one that ends with it", of(wide, bars(3, 5), bars(4, 5), made(less, 0, 1), made(less, 3, 2)), "1a-3b' 5b'-9a"},
		{"a hole over the end of another", of(wide, bars(3, 5), bars(4, 7), made(less, 0, 1), made(less, 3, 2)), "1a-3b' 7c'-9a"},
		{"one hole over two pieces", of(bars(1, 4), bars(5, 9), bars(3, 6), made(either, 0, 1), made(less, 3, 2)), "1a-3c' 6c'-9b"},
		{"one hole over all pieces", of(bars(1, 4), bars(5, 9), bars(1, 9), made(either, 0, 1), made(less, 3, 2)), ""},
		{"Less of Less: what is turned twice", of(wide, mid, core, made(less, 1, 2), made(less, 0, 3)), "1a-2b' 4c-6c 8b'-9a"},
		{"Less of Less of Less: thrice", of(wide, mid, thin, core, made(less, 2, 3), made(less, 1, 4), made(less, 0, 5)), "1a-2b' 3c-4d' 6d'-7c 8b'-9a"},
		{"what is in just one", of(bars(1, 5), bars(3, 7), made(less, 0, 1), made(less, 1, 0), made(either, 2, 3)), "1a-3b' 5a'-7b"},
		{"one that joins two", of(bars(1, 2), bars(5, 6), bars(2, 5), made(either, 0, 1), made(either, 3, 2)), "1a-6b"},
		{"one that joins two, and is longer", of(bars(1, 2), bars(5, 6), bars(2, 8), made(either, 0, 1), made(either, 3, 2)), "1a-8c"},
		{"what fills a hole: its own cross is gone", of(wide, core, made(less, 0, 1), made(either, 2, 1)), "1a-9a"},
		{"what is put into a hole, and is smaller", of(wide, thin, core, made(less, 0, 1), made(either, 2, 3)), "1a-3b' 4c-6c 7b'-9a"},
		{"rows by rows", of(bars(1, 3), bars(4, 6), bars(7, 9), made(either, 1, 0), made(either, 3, 2), bars(2, 5), bars(5.5, 8), made(either, 6, 5), made(both, 4, 7)), "2f-3a 4b-5f 5.5g-6b 7c-8g"},
		{"rows by rows, the other way about", of(bars(1, 3), bars(4, 6), bars(7, 9), made(either, 1, 0), made(either, 3, 2), bars(1, 5), bars(7, 9), made(either, 6, 5), made(both, 7, 4)), "1f-3a 4b-5f 7g-9g"},
		{"Both keeps what is turned", of(wide, core, made(less, 0, 1), bars(2, 7), made(both, 2, 3)), "2d-4b' 6b'-7d"},
		{"of the same In and Out Left's is kept, turned or not", of(wide, core, made(less, 0, 1), bars(1, 4), made(both, 3, 2)), "1d-4d"},
		{"of the same In and Out Left's is kept, the other way about", of(wide, core, made(less, 0, 1), bars(1, 4), made(both, 2, 3)), "1a-4b'"},
	} {
		wantRow(t, c.what, c.s, along(0), c.want)
	}
}

func TestSpansOfMostParts(t *testing.T) {
	// Eight bars, each within the one ahead: every second one is cut out.
	var parts []api.Part
	for i := range 8 {
		parts = append(parts, leaf(bar(float64(1+i), float64(20-i))))
	}
	parts = append(parts, made(api.Less, 6, 7))
	for i := range 6 {
		parts = append(parts, made(api.Less, 5-i, len(parts)-1))
	}
	wantRow(t, "one within the other", of(parts...), along(0), "1a-2b' 3c-4d' 5e-6f' 7g-8h' 13h'-14g 15f'-16e 17d'-18c 19b'-20a")
	parts = append(parts, made(api.Less, 0, len(parts)-1))
	wantRow(t, "what is left of the first one", of(parts...), along(0), "2b-3c' 4d-5e' 6f-7g' 8h-13h 14g'-15f 16e'-17d 18c'-19b")
	if e := solid.May(of(append(parts, parts[0])...)); e != api.ErrCount {
		t.Errorf("May of one part more: %d", e)
	}
}

// Each part is worked out once: what is made twice of what is made twice, and so on, ends.
func TestSpansOfTwiceTheSame(t *testing.T) {
	parts := []api.Part{leaf(bar(1, 2))}
	for i := range api.MaxParts - 1 {
		parts = append(parts, made(1+i%2, i, i))
	}
	wantRow(t, "twice the same", of(parts...), along(0), "1a-2a")
}

// die: numbers that look drawn, the same each time.
type die uint64

func (d *die) n(most int) int {
	*d = *d*6364136223846793005 + 1442695040888963407
	return int(uint64(*d>>33) % uint64(most))
}

// number: from -most to most, with many bits.
func (d *die) number(most float64) float64 {
	*d = *d*6364136223846793005 + 1442695040888963407
	return (float64(uint64(*d)>>11)/(1<<52) - 1) * most
}

func (d *die) point(most float64) api.Vec {
	return v(d.number(most), d.number(most), d.number(most))
}

// body: a ball, a block or a tube, not far from 0.
func (d *die) body() api.Shape {
	at, r := d.point(1.5), 1+d.number(0.75)
	switch d.n(3) {
	case 0:
		return ball(at, r)
	case 1:
		return block(at, v(at.X+r, at.Y+1+d.number(0.5), at.Z+r))
	}
	return tube(at, []api.Vec{v(r, 0, 0), v(0, -2, 0), v(0, 0, 1.5)}[d.n(3)], r)
}

// aimed: a ray that goes by not far from 0; some begin near it.
func (d *die) aimed() api.Ray {
	from, to := d.point([]float64{1, 6}[d.n(2)]), d.point(1)
	return ray(from, v(to.X-from.X, to.Y-from.Y, to.Z-from.Z), float64(d.n(3))/4)
}

// evenBar: a bar that begins and ends at one of a few places, so that many are the same.
func (d *die) evenBar() api.Shape {
	lo := d.n(12) - 1
	return bar(float64(lo), float64(lo+1+d.n(5)))
}

// grown: a solid of leaves, and of parts that are made of the one just ahead of them, and of one of the first half of all.
func (d *die) grown(shape func() api.Shape) api.Solid {
	var s api.Solid
	for range 1 + d.n(10) {
		s.Parts = append(s.Parts, leaf(shape()))
	}
	for range d.n(api.MaxParts + 1 - len(s.Parts)) {
		n := len(s.Parts)
		sides := [2]int{n - 1, d.n((n + 1) / 2)}
		turn := d.n(2)
		op := [5]int{api.Both, api.Either, api.Either, api.Less, api.Less}[d.n(5)]
		s.Parts = append(s.Parts, made(op, sides[turn], sides[1-turn]))
	}
	return s
}

// isIn: is the place t of a ray within the part, by what Both, Either and Less mean?
func isIn(parts []api.Part, i int, r api.Ray, t float64) bool {
	p := parts[i]
	if p.Op == api.Leaf {
		in, out, ok, _ := shape.Within(p.Shape, r)
		return ok && in < t && t < out
	}
	left, right := isIn(parts, p.Left, r, t), isIn(parts, p.Right, r, t)
	switch p.Op {
	case api.Both:
		return left && right
	case api.Either:
		return left || right
	}
	return left && !right
}

// checkCross: is it the leaf's In, or, turned, its Out (of an Out of the row the other way about)?
func checkCross(t *testing.T, s api.Solid, r api.Ray, c api.Cross, begins bool) {
	t.Helper()
	if c.Leaf < 0 || c.Leaf >= len(s.Parts) || s.Parts[c.Leaf].Op != api.Leaf {
		t.Fatalf("%v by %v: %v is no leaf's", s, r, c)
	}
	in, out, ok, _ := shape.Within(s.Parts[c.Leaf].Shape, r)
	want := out
	if begins != c.Turned {
		want = in
	}
	if !ok || !same(c.T, want) {
		t.Fatalf("%v by %v: %v (it begins there: %t), but the leaf is %v to %v, %t", s, r, c, begins, in, out, ok)
	}
}

// checkRow: do the spans rise without touching, are their ends those of leaves, and is the ray within just there?
func checkRow(t *testing.T, s api.Solid, r api.Ray, row []api.Span) {
	t.Helper()
	last := -1.0
	for _, p := range row {
		if !(p.In.T > last) || !(p.In.T < p.Out.T) {
			t.Fatalf("%v by %v: %v does not rise", s, r, row)
		}
		last = p.Out.T
		checkCross(t, s, r, p.In, true)
		checkCross(t, s, r, p.Out, false)
	}
	places := []float64{}
	for _, p := range s.Parts {
		if p.Op == api.Leaf {
			in, out, _, _ := shape.Within(p.Shape, r)
			// Just beside each end of each leaf: nothing changes anywhere else.
			places = append(places, ahead(in), next(in), ahead(out), next(out))
		}
	}
	for _, at := range places {
		in := false
		for _, p := range row {
			in = in || p.In.T < at && at < p.Out.T
		}
		if want := isIn(s.Parts, len(s.Parts)-1, r, at); in != want {
			t.Fatalf("%v by %v: %s: within at %v: %t, not %t", s, r, tellRow(row), at, in, want)
		}
	}
}

// checkStrike: is it the first end of the row that counts?
func checkStrike(t *testing.T, s api.Solid, r api.Ray, row []api.Span) {
	t.Helper()
	var want api.Cross
	found := false
	for i := range 2 * len(row) {
		c := row[i/2].In
		if i%2 == 1 {
			c = row[i/2].Out
		}
		if !found && c.T > 0 && c.T >= r.Least {
			want, found = c, true
		}
	}
	c, ok, e := solid.Strike(s, r)
	if e != api.OK || ok != found || c != want {
		t.Fatalf("Strike of %v by %v: %v, %t, %d, not %v", s, r, c, ok, e, want)
	}
}

// Where a ray is in a solid is just where Both, Either and Less of the parts say it is.
func TestSpansAreWhatPartsMakeThem(t *testing.T) {
	d := die(17)
	some := 0
	for i := range 4000 {
		s, r := d.grown(d.evenBar), along(float64(d.n(8)))
		if i%2 == 1 {
			s, r = d.grown(d.body), d.aimed()
		}
		row, e := solid.Spans(s, r)
		if e != api.OK {
			t.Fatalf("Spans of %v by %v: %d", s, r, e)
		}
		checkRow(t, s, r, row)
		checkStrike(t, s, r, row)
		if len(row) > 1 {
			some++
		}
	}
	if some < 200 {
		t.Errorf("only %d have more than one span: the test tells little", some)
	}
}
