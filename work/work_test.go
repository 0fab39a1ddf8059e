package work_test

import (
	"fmt"
	"math"
	"slices"
	"sync"
	"testing"

	"rayhouse/api"
	"rayhouse/bounce"
	"rayhouse/chance"
	"rayhouse/film"
	"rayhouse/scene"
	"rayhouse/work"
)

// die: numbers that look drawn, the same each time.
type die uint64

func (d *die) n(most int) int {
	*d = *d*6364136223846793005 + 1442695040888963407
	return int(uint64(*d>>33) % uint64(most))
}

func same(f, g api.Film) bool {
	return f.W == g.W && f.H == g.H && slices.Equal(f.Light, g.Light) && slices.Equal(f.Shots, g.Shots)
}

func empty(f api.Film) bool {
	return f.W == 0 && f.H == 0 && len(f.Light) == 0 && len(f.Shots) == 0
}

// session: the scene of the document's session.
const session = `eye 0 1 -5 to 0 0 0 up 0 1 0 wide 1.2 ;
sky 20000 30000 65536 ;
skin r spread 700 100 100 mirror 100 100 100 glass 0 0 0 bend 1 ;
skin glas1 spread 0 0 0 mirror 100 100 100 glass 800 800 800 bend 1.5 ;
lamp 3 5 -4 light 60000 60000 60000 ;
plate 0 -1 0 up 0 1 0 radius 6 r ;
ball 0 0 0 radius 1 glas1 ;
repeat 2 by 2 0 0 { block 1 -1 1 to 2 0 2 r ; }`

// all: a scene with each kind of things.
const all = `eye 1 2 -6 to 0 0.25 0 up 0.1 1 0 wide 1.4 ;
sky 9000 20000 40000 ;
skin a spread 800 300 200 mirror 150 300 100 glass 0 0 0 bend 1 ;
skin b spread 100 100 200 mirror 200 200 200 glass 600 700 500 bend 1.4 ;
lamp 4 6 -5 light 50000 40000 65536 ;
lamp -6 3 -2 light 10000 30000 5000 ;
ball -1.5 0 0 radius 0.75 b ;
tri -3 -1 2 , 3 -1 2 , 0 3 3 a ;
tube 2 -1 0 along 0 1.5 0 radius 0.5 a ;
ring 0 1.5 0 up 0 0 1 radius 1 0.25 b ;
solid less { block -0.5 -0.5 -1 to 0.5 0.5 0 ball 0 0 -1 radius 0.5 } b ;
field 3 3 at -3 -1.5 -2 side 2 high 0 0.5 0 0.25 -0.5 0.75 0 0.125 0 a ;`

// nothing: the sky alone.
const nothing = `eye 0 0 0 to 0 0 1 up 0 1 0 wide 2 ; sky 65536 1 0 ;`

func parsed(t *testing.T, text string) api.Scene {
	t.Helper()
	s, e := scene.Parse(text)
	if e != api.OK {
		t.Fatalf("%s: %d", text, e)
	}
	return s
}

func shot(t *testing.T, s api.Scene, w, h, from, to, depth, workers, tile int) api.Film {
	t.Helper()
	f, e := work.Shoot(s, w, h, from, to, depth, workers, tile)
	if e != api.OK {
		t.Fatalf("Shoot of %d by %d, %d to %d, %d, by %d, %d: %d", w, h, from, to, depth, workers, tile, e)
	}
	return f
}

// job: what May is asked of, in its order.
type job [7]int

func (j job) may() api.Errno {
	return work.May(j[0], j[1], j[2], j[3], j[4], j[5], j[6])
}

func (j job) shoot(s api.Scene) (api.Film, api.Errno) {
	return work.Shoot(s, j[0], j[1], j[2], j[3], j[4], j[5], j[6])
}

// with: the job with another number.
func (j job) with(at, n int) job {
	j[at] = n
	return j
}

var good = job{2, 3, 1, 2, 1, 2, 2}

// wrong: of each number those that may not be, and what is told then.
var wrong = []struct {
	at, n int
	want  api.Errno
}{
	{0, 0, api.ErrLimit}, {0, -1, api.ErrLimit}, {0, api.MaxSide + 1, api.ErrLimit}, {0, math.MinInt, api.ErrLimit}, {0, math.MaxInt, api.ErrLimit}, {0, 1<<32 + 1, api.ErrLimit},
	{1, 0, api.ErrLimit}, {1, -1, api.ErrLimit}, {1, api.MaxSide + 1, api.ErrLimit}, {1, math.MinInt, api.ErrLimit}, {1, math.MaxInt, api.ErrLimit}, {1, 1<<32 + 1, api.ErrLimit},
	{2, -1, api.ErrValue}, {2, 3, api.ErrValue}, {2, math.MinInt, api.ErrValue}, {2, math.MaxInt, api.ErrValue},
	{3, 0, api.ErrValue}, {3, -1, api.ErrValue}, {3, api.MaxShots + 1, api.ErrValue}, {3, math.MinInt, api.ErrValue}, {3, math.MaxInt, api.ErrValue},
	{4, -1, api.ErrValue}, {4, api.MaxDepth + 1, api.ErrValue}, {4, math.MinInt, api.ErrValue}, {4, math.MaxInt, api.ErrValue},
	{5, 0, api.ErrCount}, {5, -1, api.ErrCount}, {5, api.MaxWork + 1, api.ErrCount}, {5, math.MinInt, api.ErrCount}, {5, math.MaxInt, api.ErrCount},
	{6, 0, api.ErrCount}, {6, -1, api.ErrCount}, {6, api.MaxTile + 1, api.ErrCount}, {6, math.MinInt, api.ErrCount}, {6, math.MaxInt, api.ErrCount},
}

// W1

func TestMay(t *testing.T) {
	for _, j := range []job{
		good, {1, 1, 0, 0, 0, 1, 1}, {api.MaxSide, api.MaxSide, 0, api.MaxShots, api.MaxDepth, api.MaxWork, api.MaxTile},
		{1, api.MaxSide, api.MaxShots, api.MaxShots, 0, 1, api.MaxTile}, {api.MaxSide, 1, 7, 7, 4, api.MaxWork, 1}, {1, 1, 0, 16, 4, 8, 16},
	} {
		if e := j.may(); e != api.OK {
			t.Errorf("May of %v: %d", j, e)
		}
	}
	for _, c := range wrong {
		if e := good.with(c.at, c.n).may(); e != c.want {
			t.Errorf("May of %v: %d, not %d", good.with(c.at, c.n), e, c.want)
		}
	}
	for from := -1; from <= api.MaxShots+2; from++ {
		for to := -1; to <= api.MaxShots+2; to++ {
			want := api.ErrValue
			if from >= 0 && from <= to && to <= api.MaxShots {
				want = api.OK
			}
			if e := good.with(2, from).with(3, to).may(); e != want {
				t.Errorf("May of the shots %d to %d: %d, not %d", from, to, e, want)
			}
		}
	}
}

// Where two numbers may not be the error of the first one is told; ahead of what is wrong with the scene.
func TestTheOrderOfErrors(t *testing.T) {
	s, none := parsed(t, nothing), api.Scene{}
	if e := scene.May(none); e == api.OK || e == api.ErrLimit || e == api.ErrCount {
		t.Fatalf("May of nothing: %d: the test tells little", e)
	}
	for _, first := range wrong {
		for _, second := range wrong {
			if second.at < first.at {
				continue
			}
			j := good.with(second.at, second.n).with(first.at, first.n)
			if e := j.may(); e != first.want {
				t.Errorf("May of %v: %d, not %d", j, e, first.want)
			}
			for _, x := range []api.Scene{s, none} {
				if f, e := j.shoot(x); e != first.want || !empty(f) {
					t.Errorf("Shoot of %v: %v, %d, not %d", j, f, e, first.want)
				}
			}
		}
	}
}

func TestShootSaysWhatMaySaysOfTheScene(t *testing.T) {
	for _, do := range []func(*api.Scene){
		func(s *api.Scene) { s.Lamps = make([]api.Lamp, api.MaxLamps+1) },
		func(s *api.Scene) { s.Skins[0].Bend = 0 },
		func(s *api.Scene) { s.Shapes[0].Kind = 9 },
		func(s *api.Scene) { s.Shapes[0].Skin = 2 },
		func(s *api.Scene) { s.Solids[0].Parts = nil },
		func(s *api.Scene) { s.Fields[0].High = s.Fields[0].High[1:] },
		func(s *api.Scene) { s.Lamps[0].At.X = math.NaN() },
		func(s *api.Scene) { s.Sky[2] = -1 },
		func(s *api.Scene) { s.Eye.To = s.Eye.At },
		func(s *api.Scene) { s.Eye = api.Eye{} },
	} {
		s := parsed(t, all)
		do(&s)
		want := scene.May(s)
		if want == api.OK {
			t.Fatalf("%+v may be: the test tells nothing", s)
		}
		// Even where there is nothing to shoot.
		for _, j := range []job{good, good.with(2, 2), {1, 1, 0, 0, 0, 1, 1}} {
			if f, e := j.shoot(s); e != want || !empty(f) {
				t.Errorf("Shoot of %+v: %v, %d, not %d", s, f, e, want)
			}
		}
	}
}

// greatest: the greatest number that, so many times, is no more than all.
func greatest(all, times int) int {
	n := 0
	for step := 1 << 20; step > 0; step /= 2 {
		if (n+step)*times <= all {
			n += step
		}
	}
	return n
}

// spread: where the shot k of a pixel goes, along one side: the digits of k behind the point, and what is the pixel's own.
func spread(base, k, own int) int {
	at, part := 0.0, 1.0
	for ; k > 0; k /= base {
		part /= float64(base)
		at += float64(k%base) * part
	}
	// No shot lies within so little of the next number but for those that should be on it.
	return (int(math.Floor(at*65536+1e-6)) + own) % 65536
}

// second: W1 once more, with all shots in turn, each pixel looked up for it; all that a ray brings is asked of the layers above.
func second(t *testing.T, s api.Scene, w, h, from, to, depth int) api.Film {
	t.Helper()
	world, e := bounce.Open(s)
	if e != api.OK {
		t.Fatal(e)
	}
	f := api.Film{W: w, H: h, Light: make([]int, 3*w*h), Shots: make([]int, w*h)}
	for k := to - 1; k >= from; k-- {
		for i := range w * h {
			x, y := i%w, i/w
			own := int(chance.Mix(uint32(x), uint32(y), 77))
			u := greatest(65536*x+spread(2, k, own%65536), w)
			v := greatest(65536*y+spread(3, k, own/65536), h)
			f.Shots[i]++
			r, no := bounce.Ray(s.Eye, u, v, float64(h)/float64(w))
			if no != api.OK {
				continue
			}
			l, no := world.Trace(r, depth)
			if no != api.OK {
				t.Fatalf("Trace of %v: %d", r, no)
			}
			for c := range l {
				f.Light[3*i+c] += l[c]
			}
		}
	}
	return f
}

func TestShootHeldAgainstASecondWorking(t *testing.T) {
	d := die(1)
	for _, text := range []string{session, all, nothing} {
		s := parsed(t, text)
		for range 60 {
			w, h := 1+d.n(9), 1+d.n(9)
			to := d.n(api.MaxShots + 1)
			from := d.n(to + 1)
			depth, workers, tile := d.n(api.MaxDepth+1), 1+d.n(api.MaxWork), 1+d.n(api.MaxTile)
			want := second(t, s, w, h, from, to, depth)
			if got := shot(t, s, w, h, from, to, depth, workers, tile); !same(got, want) {
				t.Fatalf("%d by %d, %d to %d, %d, by %d, %d: %v, not %v", w, h, from, to, depth, workers, tile, got, want)
			}
		}
	}
}

// Every number of workers and every tile, also such as don't fit the sides.
func TestShootDoesNotHangOnWorkers(t *testing.T) {
	s := parsed(t, all)
	for _, sides := range [][2]int{{1, 1}, {7, 5}, {17, 3}, {2, 33}, {16, 16}} {
		want := second(t, s, sides[0], sides[1], 1, 3, 2)
		for workers := 1; workers <= api.MaxWork; workers++ {
			for tile := 1; tile <= api.MaxTile; tile++ {
				if got := shot(t, s, sides[0], sides[1], 1, 3, 2, workers, tile); !same(got, want) {
					t.Fatalf("%v by %d, tiles of %d: %v, not %v", sides, workers, tile, got, want)
				}
			}
		}
	}
}

func TestShootOfTheGreatest(t *testing.T) {
	s := parsed(t, session)
	for _, sides := range [][2]int{{api.MaxSide, api.MaxSide}, {api.MaxSide, 1}, {1, api.MaxSide}} {
		want := second(t, s, sides[0], sides[1], 0, 2, api.MaxDepth)
		for _, by := range [][2]int{{1, 1}, {api.MaxWork, 1}, {api.MaxWork, api.MaxTile}, {3, 15}} {
			if got := shot(t, s, sides[0], sides[1], 0, 2, api.MaxDepth, by[0], by[1]); !same(got, want) {
				t.Errorf("%v by %v: not the same", sides, by)
			}
		}
	}
}

// The document's session: both sums, the second one of what is shot later and merged.
func TestTheExample(t *testing.T) {
	s := parsed(t, session)
	sum := func(f api.Film) (sum [4]int) {
		for i, n := range f.Light {
			sum[i%3] += n
		}
		for _, n := range f.Shots {
			sum[3] += n
		}
		return sum
	}
	two := shot(t, s, 4, 3, 0, 2, 3, 4, 2)
	if got := sum(two); got != [4]int{613956, 406167, 823101, 24} {
		t.Errorf("two shots: %v", got)
	}
	three, e := film.Merge(two, shot(t, s, 4, 3, 2, 3, 3, 1, 16))
	if got := sum(three); e != api.OK || got != [4]int{883058, 615471, 1256102, 36} {
		t.Errorf("three shots: %v, %d", got, e)
	}
}

func TestShootOfTheSky(t *testing.T) {
	s := parsed(t, nothing)
	for _, shots := range [][2]int{{0, 0}, {0, 1}, {5, 5}, {3, 7}, {0, api.MaxShots}, {api.MaxShots, api.MaxShots}} {
		n := shots[1] - shots[0]
		want := api.Film{W: 3, H: 2}
		for range 6 {
			want.Light = append(want.Light, n*65536, n, 0)
			want.Shots = append(want.Shots, n)
		}
		for depth := range api.MaxDepth + 1 {
			if got := shot(t, s, 3, 2, shots[0], shots[1], depth, 2, 2); !same(got, want) {
				t.Errorf("the shots %v: %v, not %v", shots, got, want)
			}
		}
	}
}

// What is shot in parts, merged, is what is shot at once: whichever worker made which part, in any order.
func TestShootInParts(t *testing.T) {
	d := die(2)
	for _, text := range []string{session, all} {
		s := parsed(t, text)
		for range 30 {
			w, h := 1+d.n(6), 1+d.n(6)
			to := d.n(api.MaxShots + 1)
			from := d.n(to + 1)
			depth := d.n(api.MaxDepth + 1)
			part := func(from, to int) api.Film {
				return shot(t, s, w, h, from, to, depth, 1+d.n(api.MaxWork), 1+d.n(api.MaxTile))
			}
			want := part(from, to)
			cut := from + d.n(to-from+1)
			one, other := part(from, cut), part(cut, to)
			if got, e := film.Merge(one, other); e != api.OK || !same(got, want) {
				t.Fatalf("%d to %d to %d: %v, %d, not %v", from, cut, to, got, e, want)
			}
			if got, e := film.Merge(other, one); e != api.OK || !same(got, want) {
				t.Fatalf("%d to %d to %d, the last first: %v, %d, not %v", from, cut, to, got, e, want)
			}
		}
	}
}

// An eye so wide that rays far from the middle aren't OK: nothing comes there, but the shots count.
func TestShootWhereARayIsNotOK(t *testing.T) {
	s := parsed(t, `eye 0 0 0 to 0 0 1 up 0 1 0 wide 2 ; sky 100 200 300 ;`)
	s.Eye.Wide = api.MaxReach
	seen := map[bool]int{}
	for _, sides := range [][2]int{{1, 4}, {3, 12}, {2, 64}, {1, 1}, {4, 1}} {
		w, h := sides[0], sides[1]
		for _, by := range [][2]int{{1, 1}, {8, 2}, {5, 16}} {
			got := shot(t, s, w, h, 0, 3, 1, by[0], by[1])
			if want := second(t, s, w, h, 0, 3, 1); !same(got, want) {
				t.Errorf("%v: %v, not %v", sides, got, want)
			}
			for i, n := range got.Shots {
				if n != 3 {
					t.Errorf("%v: %d shots", sides, n)
				}
				seen[got.Light[3*i] == 0]++
			}
		}
	}
	// Of four rows that reach from 2000000 up to 2000000 down the outer ones are beyond reach, the inner ones are not.
	got := shot(t, s, 1, 4, 0, 1, 0, 1, 1)
	if want := []int{0, 0, 0, 100, 200, 300, 100, 200, 300, 0, 0, 0}; !slices.Equal(got.Light, want) {
		t.Errorf("%v, not %v", got.Light, want)
	}
	if seen[true] < 10 || seen[false] < 10 {
		t.Errorf("%v: the test tells little", seen)
	}
}

// X2

func TestShootLeavesTheSceneAlone(t *testing.T) {
	s := parsed(t, all)
	before := fmt.Sprintf("%+v", s)
	one, two := shot(t, s, 5, 4, 0, 2, 3, 8, 2), shot(t, s, 5, 4, 0, 2, 3, 8, 2)
	if fmt.Sprintf("%+v", s) != before {
		t.Error("the scene is written into")
	}
	kept := slices.Clone(two.Shots)
	wipe(two.Light)
	if !slices.Equal(two.Shots, kept) {
		t.Error("the shots lie where the light has room")
	}
	wipe(two.Shots)
	clear(s.Shapes)
	clear(s.Skins)
	clear(s.Lamps)
	clear(s.Solids[0].Parts)
	clear(s.Fields[0].High)
	if again := shot(t, parsed(t, all), 5, 4, 0, 2, 3, 8, 2); !same(one, again) {
		t.Error("a film changes with another, or with the scene")
	}
}

// wipe writes over all that a list has room for.
func wipe(numbers []int) {
	numbers = numbers[:cap(numbers)]
	for i := range numbers {
		numbers[i] = -7
	}
}

// Many that shoot one scene at the same time don't touch each other.
func TestShootAtTheSameTime(t *testing.T) {
	s := parsed(t, all)
	want := second(t, s, 6, 5, 0, 2, 2)
	var got [8]api.Film
	var wait sync.WaitGroup
	for i := range got {
		wait.Go(func() { got[i], _ = work.Shoot(s, 6, 5, 0, 2, 2, i+1, 8-i) })
	}
	wait.Wait()
	for i := range got {
		if !same(got[i], want) {
			t.Errorf("%d: %v, not %v", i, got[i], want)
		}
	}
}
