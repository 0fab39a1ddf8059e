package film_test

import (
	"fmt"
	"math"
	"slices"
	"testing"

	"rayhouse/api"
	"rayhouse/film"
)

const (
	mostLight = 1 << 40
	mostShots = 1 << 20
)

// die: numbers that look drawn, the same each time.
type die uint64

func (d *die) n(most int) int {
	*d = *d*6364136223846793005 + 1442695040888963407
	return int(uint64(*d>>33) % uint64(most))
}

// colour: three numbers, small ones and great ones.
func (d *die) colour() (c [3]int) {
	for i := range c {
		c[i] = d.n(1 << (1 + d.n(30)))
	}
	return c
}

// drawn: a film of drawn numbers.
func (d *die) drawn(w, h int) api.Film {
	f := api.Film{W: w, H: h}
	for range w * h {
		c := d.colour()
		f.Light = append(f.Light, c[:]...)
		f.Shots = append(f.Shots, d.n(5))
	}
	return f
}

// blank: a film with so many numbers, all of them 0.
func blank(w, h, light, shots int) api.Film {
	return api.Film{W: w, H: h, Light: make([]int, light), Shots: make([]int, shots)}
}

// nought: one as New makes it.
func nought(w, h int) api.Film {
	return blank(w, h, 3*w*h, w*h)
}

// alone: a film with this light alone, and one shot there.
func alone(w, h, x, y int, light [3]int) api.Film {
	f := nought(w, h)
	for c := range 3 {
		f.Light[3*(w*y+x)+c] = light[c]
	}
	f.Shots[w*y+x] = 1
	return f
}

func copied(f api.Film) api.Film {
	return api.Film{W: f.W, H: f.H, Light: slices.Clone(f.Light), Shots: slices.Clone(f.Shots)}
}

func same(f, g api.Film) bool {
	return f.W == g.W && f.H == g.H && slices.Equal(f.Light, g.Light) && slices.Equal(f.Shots, g.Shots)
}

func empty(f api.Film) bool {
	return f.W == 0 && f.H == 0 && len(f.Light) == 0 && len(f.Shots) == 0
}

// light, shots: nought, 2 by 3, with one number.
func light(at, n int) api.Film {
	f := nought(2, 3)
	f.Light[at] = n
	return f
}

func shots(at, n int) api.Film {
	f := nought(2, 3)
	f.Shots[at] = n
	return f
}

type refusal struct {
	f    api.Film
	want api.Errno
}

// refused: films that may not be; where two things are wrong the first one is told.
func refused() []refusal {
	const side, most = api.MaxSide, api.MaxSide * api.MaxSide
	both := func(f api.Film, at, n int) api.Film {
		f.Light[at] = n
		return f
	}
	return []refusal{
		{api.Film{}, api.ErrLimit}, {blank(0, 1, 0, 0), api.ErrLimit}, {blank(1, 0, 0, 0), api.ErrLimit}, {blank(0, 0, 3, 1), api.ErrLimit},
		{blank(-1, 1, 3, 1), api.ErrLimit}, {blank(1, -1, 3, 1), api.ErrLimit}, {blank(-1, -1, 3, 1), api.ErrLimit},
		{nought(side+1, 1), api.ErrLimit}, {nought(1, side+1), api.ErrLimit}, {nought(side+1, side+1), api.ErrLimit},
		{blank(math.MaxInt, 1, 3, 1), api.ErrLimit}, {blank(1, math.MinInt, 3, 1), api.ErrLimit}, {blank(1<<32, 1<<32, 0, 0), api.ErrLimit}, {blank(1<<32+1, 1, 3, 1), api.ErrLimit},
		{both(blank(0, 1, 3, 1), 0, -1), api.ErrLimit}, {both(blank(side+1, 1, 2, 1), 0, -1), api.ErrLimit},
		{blank(1, 1, 0, 0), api.ErrCount}, {blank(1, 1, 2, 1), api.ErrCount}, {blank(1, 1, 4, 1), api.ErrCount}, {blank(1, 1, 3, 0), api.ErrCount}, {blank(1, 1, 3, 2), api.ErrCount},
		{blank(1, 1, 1, 1), api.ErrCount}, {blank(1, 1, 6, 2), api.ErrCount}, {blank(2, 3, 17, 6), api.ErrCount}, {blank(2, 3, 19, 6), api.ErrCount}, {blank(2, 3, 18, 5), api.ErrCount}, {blank(2, 3, 18, 7), api.ErrCount}, {blank(2, 3, 6, 18), api.ErrCount},
		{blank(side, side, 3*most-1, most), api.ErrCount}, {blank(side, side, 3*most+1, most), api.ErrCount}, {blank(side, side, 3*most, most-1), api.ErrCount}, {blank(side, side, 3*most, most+1), api.ErrCount},
		{both(blank(2, 3, 18, 5), 0, -1), api.ErrCount}, {both(blank(2, 3, 19, 6), 18, mostLight+1), api.ErrCount},
		{light(0, -1), api.ErrValue}, {light(17, -1), api.ErrValue}, {light(7, mostLight+1), api.ErrValue}, {light(17, mostLight+1), api.ErrValue},
		{light(1, math.MinInt), api.ErrValue}, {light(2, math.MaxInt), api.ErrValue}, {light(3, -mostLight), api.ErrValue},
		{shots(0, -1), api.ErrValue}, {shots(5, -1), api.ErrValue}, {shots(3, mostShots+1), api.ErrValue}, {shots(5, mostShots+1), api.ErrValue},
		{shots(1, math.MinInt), api.ErrValue}, {shots(2, math.MaxInt), api.ErrValue}, {shots(4, mostLight), api.ErrValue},
	}
}

// F1

func TestMay(t *testing.T) {
	d := die(1)
	for _, sides := range [][2]int{{1, 1}, {1, 5}, {5, 1}, {3, 4}, {api.MaxSide, 1}, {1, api.MaxSide}, {api.MaxSide - 1, 2}, {api.MaxSide, api.MaxSide}} {
		if e := film.May(d.drawn(sides[0], sides[1])); e != api.OK {
			t.Errorf("May of %v: %d", sides, e)
		}
	}
	for at := range 18 {
		for _, n := range []int{0, 1, mostLight - 1, mostLight} {
			if e := film.May(light(at, n)); e != api.OK {
				t.Errorf("May with the light %d: %d", n, e)
			}
		}
	}
	for at := range 6 {
		for _, n := range []int{0, 1, mostShots - 1, mostShots} {
			if e := film.May(shots(at, n)); e != api.OK {
				t.Errorf("May with the shots %d: %d", n, e)
			}
		}
	}
	for _, c := range refused() {
		if e := film.May(c.f); e != c.want {
			t.Errorf("May of %d by %d with %d and %d: %d, not %d", c.f.W, c.f.H, len(c.f.Light), len(c.f.Shots), e, c.want)
		}
	}
}

func TestNew(t *testing.T) {
	for _, sides := range [][2]int{{1, 1}, {1, 6}, {6, 1}, {2, 3}, {api.MaxSide, 1}, {1, api.MaxSide}, {api.MaxSide, api.MaxSide}} {
		f, e := film.New(sides[0], sides[1])
		if e != api.OK || !same(f, nought(sides[0], sides[1])) || film.May(f) != api.OK {
			t.Errorf("New of %v: %v, %d", sides, f, e)
		}
	}
	for _, bad := range []int{0, -1, api.MaxSide + 1, math.MinInt, math.MaxInt, 1 << 32, 1<<32 + 1} {
		for _, other := range []int{1, 0, api.MaxSide, api.MaxSide + 1, -1} {
			for _, sides := range [][2]int{{bad, other}, {other, bad}} {
				if f, e := film.New(sides[0], sides[1]); e != api.ErrLimit || !empty(f) {
					t.Errorf("New of %v: %v, %d", sides, f, e)
				}
			}
		}
	}
}

// F2

// Pixel by pixel, each several times: what is put is where it was put, and nowhere else.
func TestPutPixelByPixel(t *testing.T) {
	d := die(2)
	for _, sides := range [][2]int{{1, 1}, {1, 4}, {4, 1}, {3, 2}, {2, 3}, {5, 5}} {
		w, h := sides[0], sides[1]
		got, want := nought(w, h), nought(w, h)
		for i := range 3 * w * h {
			x, y, c := i%w, i/w%h, d.colour()
			for k, n := range c {
				want.Light[3*(w*y+x)+k] += n
			}
			want.Shots[w*y+x]++
			var e api.Errno
			if got, e = film.Put(got, x, y, c); e != api.OK || !same(got, want) {
				t.Fatalf("Put of %v at %d, %d: %v, %d, not %v", c, x, y, got, e, want)
			}
		}
	}
}

func TestPutIsMergeOfOneAlone(t *testing.T) {
	d := die(3)
	refusals := 0
	for range 3000 {
		w, h := 1+d.n(4), 1+d.n(4)
		f, x, y, c := d.drawn(w, h), d.n(w), d.n(h), d.colour()
		at := w*y + x
		switch d.n(4) {
		case 0: // Just up to what may be, or just beyond.
			k := d.n(3)
			f.Light[3*at+k] = mostLight - c[k] + d.n(2)
		case 1:
			f.Shots[at] = mostShots - d.n(2)
		}
		if film.May(f) != api.OK {
			continue
		}
		got, e := film.Put(f, x, y, c)
		want, no := film.Merge(f, alone(w, h, x, y, c))
		if e != no || !same(got, want) {
			t.Fatalf("Put of %v at %d, %d of %v: %v, %d, not %v, %d", c, x, y, f, got, e, want, no)
		}
		if e != api.OK {
			refusals++
		}
	}
	if refusals < 100 {
		t.Errorf("only %d are refused: the test tells little", refusals)
	}
}

func TestPutRefuses(t *testing.T) {
	hold := func(f api.Film, x, y int, c [3]int, want api.Errno) {
		t.Helper()
		if got, e := film.Put(f, x, y, c); e != want || !empty(got) {
			t.Errorf("Put of %v at %d, %d of %d by %d: %v, %d, not %d", c, x, y, f.W, f.H, got, e, want)
		}
	}
	for _, c := range refused() {
		hold(c.f, 0, 0, [3]int{}, c.want)
		hold(c.f, -1, 0, [3]int{}, c.want)
		hold(c.f, 0, 0, [3]int{-1}, c.want)
	}
	good := nought(2, 3)
	full := nought(2, 3)
	for i := range full.Light {
		full.Light[i] = mostLight
	}
	for _, at := range [][2]int{{-1, 0}, {0, -1}, {2, 0}, {0, 3}, {2, 3}, {1, 3}, {2, 2}, {-1, 3}, {2, -1}, {6, 0}, {math.MinInt, 0}, {0, math.MaxInt}, {math.MaxInt, math.MinInt}, {1 << 32, 0}, {-2, 1}} {
		hold(good, at[0], at[1], [3]int{1, 2, 3}, api.ErrValue)
		hold(good, at[0], at[1], [3]int{-1, 2, 3}, api.ErrValue)
		hold(full, at[0], at[1], [3]int{1, 2, 3}, api.ErrValue)
	}
	for k := range 3 {
		for _, n := range []int{-1, mostLight + 1, math.MinInt, math.MaxInt, -mostLight} {
			var c [3]int
			c[k] = n
			hold(good, 1, 2, c, api.ErrValue)
			hold(full, 1, 2, c, api.ErrValue)
		}
	}
}

// Just within each side, with the least and the most of light.
func TestPutAtTheEdges(t *testing.T) {
	for _, sides := range [][2]int{{1, 1}, {2, 3}, {api.MaxSide, api.MaxSide}} {
		w, h := sides[0], sides[1]
		for _, at := range [][2]int{{0, 0}, {w - 1, 0}, {0, h - 1}, {w - 1, h - 1}} {
			for _, c := range [][3]int{{}, {mostLight, 0, 1}, {mostLight, mostLight, mostLight}} {
				if got, e := film.Put(nought(w, h), at[0], at[1], c); e != api.OK || !same(got, alone(w, h, at[0], at[1], c)) {
					t.Errorf("Put of %v at %v of %v: %d", c, at, sides, e)
				}
			}
		}
	}
	for k := range 3 {
		for _, n := range []int{1, 2, 1000, mostLight - 1, mostLight} {
			var c, beyond [3]int
			c[k], beyond[k] = mostLight-n, mostLight-n+1
			f := light(6+k, n)
			got, e := film.Put(f, 0, 1, c)
			if e != api.OK || got.Light[6+k] != mostLight || got.Shots[2] != 1 {
				t.Errorf("Put of %v onto %d: %v, %d", c, n, got, e)
			}
			if got, e := film.Put(f, 0, 1, beyond); e != api.ErrLimit || !empty(got) {
				t.Errorf("Put of %v onto %d: %v, %d", beyond, n, got, e)
			}
		}
	}
	if got, e := film.Put(shots(3, mostShots-1), 1, 1, [3]int{}); e != api.OK || got.Shots[3] != mostShots {
		t.Errorf("Put of the last shot: %v, %d", got, e)
	}
	if got, e := film.Put(shots(3, mostShots), 1, 1, [3]int{}); e != api.ErrLimit || !empty(got) {
		t.Errorf("Put of a shot too many: %v, %d", got, e)
	}
	if got, e := film.Put(shots(3, mostShots), 0, 1, [3]int{}); e != api.OK || got.Shots[3] != mostShots || got.Shots[2] != 1 {
		t.Errorf("Put beside: %v, %d", got, e)
	}
}

func merged(t *testing.T, f, g api.Film) api.Film {
	t.Helper()
	m, e := film.Merge(f, g)
	if e != api.OK {
		t.Fatalf("Merge of %v and %v: %d", f, g, e)
	}
	return m
}

func TestMerge(t *testing.T) {
	got := merged(t, api.Film{W: 2, H: 1, Light: []int{1, 2, 3, 4, 5, 6}, Shots: []int{7, 8}}, api.Film{W: 2, H: 1, Light: []int{10, 20, 30, 40, 50, 60}, Shots: []int{70, 0}})
	if want := (api.Film{W: 2, H: 1, Light: []int{11, 22, 33, 44, 55, 66}, Shots: []int{77, 8}}); !same(got, want) {
		t.Errorf("%v, not %v", got, want)
	}
	d := die(4)
	for _, sides := range [][2]int{{1, 1}, {3, 5}, {api.MaxSide, 1}, {api.MaxSide, api.MaxSide}} {
		f, g := d.drawn(sides[0], sides[1]), d.drawn(sides[0], sides[1])
		want := copied(f)
		for i, n := range g.Light {
			want.Light[i] += n
		}
		for i, n := range g.Shots {
			want.Shots[i] += n
		}
		if got := merged(t, f, g); !same(got, want) {
			t.Errorf("Merge of %v", sides)
		}
		if got := merged(t, f, nought(sides[0], sides[1])); !same(got, f) {
			t.Errorf("Merge of %v and of noughts", sides)
		}
		if got := merged(t, f, f); got.Light[2] != 2*f.Light[2] || got.Shots[0] != 2*f.Shots[0] {
			t.Errorf("Merge of one with itself")
		}
	}
}

// Films that are merged in any order, and in any brackets, are the same.
func TestMergeInAnyOrder(t *testing.T) {
	d := die(5)
	for range 200 {
		w, h := 1+d.n(4), 1+d.n(4)
		row := []api.Film{d.drawn(w, h), d.drawn(w, h), d.drawn(w, h), d.drawn(w, h)}
		want := merged(t, merged(t, merged(t, row[0], row[1]), row[2]), row[3])
		for range 6 {
			left := slices.Clone(row)
			for len(left) > 1 {
				i, j := d.n(len(left)), d.n(len(left)-1)
				if j >= i {
					j++
				}
				left[i] = merged(t, left[i], left[j])
				left = slices.Delete(left, j, j+1)
			}
			if !same(left[0], want) {
				t.Fatalf("%v: %v, not %v", row, left[0], want)
			}
		}
	}
}

func TestMergeRefuses(t *testing.T) {
	hold := func(f, g api.Film, want api.Errno) {
		t.Helper()
		if got, e := film.Merge(f, g); e != want || !empty(got) {
			t.Errorf("Merge of %d by %d and %d by %d: %v, %d, not %d", f.W, f.H, g.W, g.H, got, e, want)
		}
	}
	for _, c := range refused() {
		hold(c.f, nought(2, 3), c.want)
		hold(nought(2, 3), c.f, c.want)
		hold(nought(5, 1), c.f, c.want)
		for _, other := range refused() {
			hold(c.f, other.f, c.want)
		}
	}
	for _, sides := range [][4]int{{2, 3, 3, 2}, {2, 3, 2, 4}, {2, 3, 1, 3}, {1, 6, 2, 3}, {1, 1, 1, 2}, {api.MaxSide, 1, 1, api.MaxSide}} {
		f, g := nought(sides[0], sides[1]), nought(sides[2], sides[3])
		hold(f, g, api.ErrCount)
		f.Light[0], g.Light[0] = mostLight, mostLight
		hold(g, f, api.ErrCount)
	}
	for at := range 18 {
		for _, n := range []int{1, 5000, mostLight - 1, mostLight} {
			f, g := light(at, n), light(at, mostLight-n)
			if got, e := film.Merge(f, g); e != api.OK || !same(got, light(at, mostLight)) {
				t.Errorf("Merge up to the most: %v, %d", got, e)
			}
			g.Light[at]++
			hold(f, g, api.ErrLimit)
			hold(g, f, api.ErrLimit)
		}
		hold(light(at, mostLight), light(at, mostLight), api.ErrLimit)
	}
	for at := range 6 {
		for _, n := range []int{1, 5000, mostShots - 1, mostShots} {
			f, g := shots(at, n), shots(at, mostShots-n)
			if got, e := film.Merge(f, g); e != api.OK || !same(got, shots(at, mostShots)) {
				t.Errorf("Merge up to the most: %v, %d", got, e)
			}
			g.Shots[at]++
			hold(f, g, api.ErrLimit)
			hold(g, f, api.ErrLimit)
		}
	}
}

// X2

// wipe writes over all that a list has room for.
func wipe(numbers []int) {
	numbers = numbers[:cap(numbers)]
	for i := range numbers {
		numbers[i] = -7
	}
}

// holdFresh: what came out stays as it is when what went in is written over, and the other way about, and its own lists share nothing.
func holdFresh(t *testing.T, what string, got api.Film, in ...*api.Film) {
	t.Helper()
	kept := copied(got)
	var before []string
	for _, f := range in {
		before = append(before, fmt.Sprint(*f))
	}
	wipe(got.Light)
	if !slices.Equal(got.Shots, kept.Shots) {
		t.Errorf("%s: the shots lie where the light has room", what)
	}
	wipe(got.Shots)
	for i, f := range in {
		if fmt.Sprint(*f) != before[i] {
			t.Errorf("%s: what went in changes with what came out", what)
		}
	}
	got.Light, got.Shots = got.Light[:len(kept.Light)], got.Shots[:len(kept.Shots)]
	copy(got.Light, kept.Light)
	copy(got.Shots, kept.Shots)
	for _, f := range in {
		wipe(f.Light)
		wipe(f.Shots)
	}
	if !same(got, kept) {
		t.Errorf("%s: what came out changes with what went in", what)
	}
}

func TestFilmsAreFresh(t *testing.T) {
	d := die(6)
	for range 50 {
		w, h := 1+d.n(5), 1+d.n(5)
		f, g := d.drawn(w, h), d.drawn(w, h)
		if d.n(2) == 0 {
			g = nought(w, h)
		}
		f2, g2 := copied(f), copied(g)
		a, _ := film.Merge(f, g)
		b, _ := film.Put(f, w-1, h-1, [3]int{0, 0, d.n(2)})
		film.Tone(f, 1000)
		film.May(g)
		if !same(f, f2) || !same(g, g2) {
			t.Fatal("what went in is written into")
		}
		f3, g3 := copied(f), copied(g)
		holdFresh(t, "Merge", a, &f, &g)
		b2, _ := film.Put(f3, w-1, h-1, [3]int{0, 0, 1})
		holdFresh(t, "Put", b2, &f3)
		self, _ := film.Merge(g3, g3)
		holdFresh(t, "Merge of one with itself", self, &g3)
		holdFresh(t, "Put, later", b)
		one, _ := film.New(w, h)
		two, _ := film.New(w, h)
		holdFresh(t, "New", one, &two)
	}
}
