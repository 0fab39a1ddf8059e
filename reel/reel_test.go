package reel_test

import (
	"math"
	"math/big"
	"slices"
	"testing"

	"rayhouse/api"
	"rayhouse/reel"
)

// die: numbers that look drawn, the same each time.
type die uint64

func (d *die) n(most int) int {
	*d = *d*6364136223846793005 + 1442695040888963407
	return int(uint64(*d>>33) % uint64(most))
}

// place: three numbers from -most to most.
func (d *die) place(most int) (at [3]int) {
	for i := range at {
		at[i] = d.n(2*most+1) - most
	}
	return at
}

// keys: so many, each up to gap behind the one ahead.
func (d *die) keys(n, gap, most int) (keys []api.Key) {
	time := d.n(gap + 1)
	for range n {
		keys = append(keys, api.Key{Time: time, At: d.place(most)})
		time += 1 + d.n(gap)
	}
	return keys
}

// even: so many keys, one behind the other, all at one place.
func even(n int) (keys []api.Key) {
	for i := range n {
		keys = append(keys, api.Key{Time: i, At: [3]int{1, 2, 3}})
	}
	return keys
}

// two: a way along the first number alone.
func two(time, from, other, to int) []api.Key {
	return []api.Key{{Time: time, At: [3]int{from, 0, 0}}, {Time: other, At: [3]int{to, 0, 0}}}
}

// secondMay: all faults of all keys, one by one; the first one is told.
func secondMay(keys []api.Key) api.Errno {
	if n := len(keys); n == 0 || n > api.MaxFrames {
		return api.ErrCount
	}
	var faults []api.Errno
	for i, k := range keys {
		rises := i == 0 || keys[i-1].Time < k.Time
		if k.Time < 0 || k.Time > api.MaxWhole || !rises {
			faults = append(faults, api.ErrValue)
		}
		for _, n := range k.At {
			if n < -api.MaxWhole || api.MaxWhole < n {
				faults = append(faults, api.ErrReach)
			}
		}
	}
	return append(faults, api.OK)[0]
}

// secondAt: where keys that may be are, in fractions that are never rounded: a half more, then downward.
func secondAt(keys []api.Key, time int) (at [3]int) {
	first, last := keys[0], keys[len(keys)-1]
	if time <= first.Time {
		return first.At
	}
	if time >= last.Time {
		return last.At
	}
	i := len(keys) - 1
	for keys[i].Time > time {
		i--
	}
	a, b := keys[i], keys[i+1]
	way := big.NewRat(int64(time-a.Time), int64(b.Time-a.Time))
	for c := range at {
		x := big.NewRat(int64(b.At[c]-a.At[c]), 1)
		x.Mul(x, way).Add(x, big.NewRat(int64(a.At[c]), 1)).Add(x, big.NewRat(1, 2))
		// Div rounds downward, since what is below the line is above 0.
		at[c] = int(new(big.Int).Div(x.Num(), x.Denom()).Int64())
	}
	return at
}

func holdAt(t *testing.T, keys []api.Key, time int) {
	t.Helper()
	if at, e := reel.At(keys, time); e != api.OK || at != secondAt(keys, time) {
		t.Fatalf("At of %v, %d: %v, %d, not %v", keys, time, at, e, secondAt(keys, time))
	}
}

// with: the keys with another one at a place.
func with(keys []api.Key, i int, k api.Key) []api.Key {
	keys = slices.Clone(keys)
	keys[i] = k
	return keys
}

// K1

func TestHowManyKeys(t *testing.T) {
	for _, n := range []int{0, 1, 2, api.MaxFrames - 1, api.MaxFrames, api.MaxFrames + 1, 2 * api.MaxFrames} {
		want := api.OK
		if n == 0 || n > api.MaxFrames {
			want = api.ErrCount
		}
		if e := reel.May(even(n)); e != want {
			t.Errorf("May of %d keys: %d, not %d", n, e, want)
		}
	}
	if e := reel.May([]api.Key{}); e != api.ErrCount {
		t.Errorf("May of an empty list: %d", e)
	}
	// How many they are is told ahead of what they are.
	wrong := make([]api.Key, api.MaxFrames+1)
	wrong[0] = api.Key{Time: -1, At: [3]int{math.MaxInt, 0, 0}}
	if e := reel.May(wrong); e != api.ErrCount {
		t.Errorf("May of too many wrong keys: %d", e)
	}
	if e := reel.May(wrong[:api.MaxFrames]); e != api.ErrValue {
		t.Errorf("May of as many wrong keys as may be: %d", e)
	}
}

func TestTimes(t *testing.T) {
	for _, c := range []struct {
		times []int
		want  api.Errno
	}{
		{[]int{0}, api.OK}, {[]int{1}, api.OK}, {[]int{api.MaxWhole}, api.OK}, {[]int{-1}, api.ErrValue}, {[]int{api.MaxWhole + 1}, api.ErrValue},
		{[]int{math.MinInt}, api.ErrValue}, {[]int{math.MaxInt}, api.ErrValue},
		{[]int{0, 1}, api.OK}, {[]int{0, api.MaxWhole}, api.OK}, {[]int{api.MaxWhole - 1, api.MaxWhole}, api.OK},
		{[]int{0, 0}, api.ErrValue}, {[]int{7, 7}, api.ErrValue}, {[]int{api.MaxWhole, api.MaxWhole}, api.ErrValue}, {[]int{7, 6}, api.ErrValue}, {[]int{1, 0}, api.ErrValue},
		{[]int{0, api.MaxWhole + 1}, api.ErrValue}, {[]int{api.MaxWhole, api.MaxWhole + 1}, api.ErrValue}, {[]int{-1, 0}, api.ErrValue}, {[]int{0, -1}, api.ErrValue},
		{[]int{1, 2, 3}, api.OK}, {[]int{1, 3, 2}, api.ErrValue}, {[]int{1, 3, 3}, api.ErrValue}, {[]int{3, 3, 4}, api.ErrValue}, {[]int{0, math.MaxInt}, api.ErrValue},
	} {
		var keys []api.Key
		for _, time := range c.times {
			keys = append(keys, api.Key{Time: time})
		}
		if e := reel.May(keys); e != c.want {
			t.Errorf("May of the times %v: %d, not %d", c.times, e, c.want)
		}
	}
}

func TestPlaces(t *testing.T) {
	for _, n := range []int{0, 1, -1, api.MaxWhole, -api.MaxWhole, api.MaxWhole + 1, -api.MaxWhole - 1, math.MaxInt, math.MinInt} {
		want := api.OK
		if n > api.MaxWhole || n < -api.MaxWhole {
			want = api.ErrReach
		}
		for i := range 3 {
			for which := range 3 {
				keys := even(3)
				keys[which].At[i] = n
				if e := reel.May(keys); e != want {
					t.Errorf("May with %d at %d of the key %d: %d, not %d", n, i, which, e, want)
				}
			}
		}
	}
}

// Of each key first its time, then its numbers: then the next one.
func TestTheFirstKeyThatMayNotBe(t *testing.T) {
	far := [3]int{0, api.MaxWhole + 1, 0}
	for _, c := range []struct {
		keys []api.Key
		want api.Errno
	}{
		{[]api.Key{{Time: -1, At: far}}, api.ErrValue},
		{[]api.Key{{Time: 3, At: far}, {Time: 2}}, api.ErrReach},
		{[]api.Key{{Time: 3}, {Time: 2, At: far}}, api.ErrValue},
		{[]api.Key{{Time: 3}, {Time: 4, At: far}, {Time: 4}}, api.ErrReach},
		{[]api.Key{{Time: 3}, {Time: 3}, {Time: 4, At: far}}, api.ErrValue},
		{[]api.Key{{Time: 3}, {Time: 4}, {Time: api.MaxWhole + 1, At: far}}, api.ErrValue},
	} {
		if e := reel.May(c.keys); e != c.want {
			t.Errorf("May of %v: %d, not %d", c.keys, e, c.want)
		}
	}
	d := die(3)
	said := map[api.Errno]int{}
	for range 4000 {
		keys := d.keys(1+d.n(6), 5, 100)
		for range d.n(3) {
			keys[d.n(len(keys))].Time += d.n(13) - 6
		}
		for range d.n(3) {
			keys[d.n(len(keys))].At[d.n(3)] = (2*d.n(2) - 1) * (api.MaxWhole + d.n(3) - 1)
		}
		e, want := reel.May(keys), secondMay(keys)
		if e != want {
			t.Fatalf("May of %v: %d, not %d", keys, e, want)
		}
		at, no := reel.At(keys, d.n(20))
		if no != want || want != api.OK && at != [3]int{} {
			t.Fatalf("At of %v: %v, %d, not %d", keys, at, no, want)
		}
		said[e]++
	}
	for _, e := range []api.Errno{api.OK, api.ErrValue, api.ErrReach} {
		if said[e] < 300 {
			t.Errorf("%d came up %d times: the test tells little", e, said[e])
		}
	}
}

func TestAtOfKnownKeys(t *testing.T) {
	example := []api.Key{{Time: 0}, {Time: 4, At: [3]int{10, -10, 1}}}
	for time, want := range map[int][3]int{-1: {}, 0: {}, 1: {3, -2, 0}, 2: {5, -5, 1}, 3: {8, -7, 1}, 4: {10, -10, 1}, 5: {10, -10, 1}} {
		if at, e := reel.At(example, time); e != api.OK || at != want {
			t.Errorf("At %d: %v, %d, not %v", time, at, e, want)
		}
	}
	three := []api.Key{{Time: 2, At: [3]int{1, 2, 3}}, {Time: 5, At: [3]int{4, 2, -3}}, {Time: 6, At: [3]int{-100, 0, 9}}}
	for time, want := range map[int][3]int{
		math.MinInt: {1, 2, 3}, -1: {1, 2, 3}, 0: {1, 2, 3}, 1: {1, 2, 3}, 2: {1, 2, 3}, 3: {2, 2, 1}, 4: {3, 2, -1}, 5: {4, 2, -3}, 6: {-100, 0, 9}, 7: {-100, 0, 9}, api.MaxWhole + 1: {-100, 0, 9}, math.MaxInt: {-100, 0, 9},
	} {
		if at, e := reel.At(three, time); e != api.OK || at != want {
			t.Errorf("At %d: %v, %d, not %v", time, at, e, want)
		}
	}
}

// A single key: it stands still for ever.
func TestAtOfOneKey(t *testing.T) {
	for _, time := range []int{0, 1, 1000, api.MaxWhole} {
		keys := []api.Key{{Time: time, At: [3]int{api.MaxWhole, -api.MaxWhole, 7}}}
		for _, at := range []int{math.MinInt, -1, 0, time - 1, time, time + 1, math.MaxInt} {
			holdAt(t, keys, at)
		}
	}
}

// Halves go up, above 0 and below it; what is beside a half goes to the nearest.
func TestHalves(t *testing.T) {
	for _, c := range [][6]int{ // a time, where; another, where; a time between, where it is then
		{0, 0, 2, 1, 1, 1}, {0, 0, 2, -1, 1, 0}, {0, 0, 2, 3, 1, 2}, {0, 0, 2, -3, 1, -1}, {0, 1, 2, 0, 1, 1}, {0, -1, 2, 0, 1, 0}, {0, -1, 2, -2, 1, -1}, {0, -2, 2, -1, 1, -1}, {0, -3, 2, 3, 1, 0}, {0, -4, 2, 3, 1, 0}, {0, -3, 2, 2, 1, 0}, {0, -4, 2, 1, 1, -1},
		{0, 0, 3, 1, 1, 0}, {0, 0, 3, 1, 2, 1}, {0, 0, 3, -1, 1, 0}, {0, 0, 3, -1, 2, -1}, {5, 10, 9, 4, 6, 9}, {5, 10, 9, 4, 7, 7}, {5, 10, 9, 4, 8, 6}, {5, -10, 9, -4, 6, -8}, {5, -10, 9, -4, 8, -5},
		{0, 0, 1000, 1, 499, 0}, {0, 0, 1000, 1, 500, 1}, {0, 0, 1000, -1, 500, 0}, {0, 0, 1000, -1, 501, -1}, {0, 0, 1000, -1, 499, 0},
		{0, -api.MaxWhole, api.MaxWhole, api.MaxWhole, api.MaxWhole / 2, 0}, {0, -api.MaxWhole, api.MaxWhole, api.MaxWhole, api.MaxWhole - 1, api.MaxWhole - 2}, {0, api.MaxWhole, api.MaxWhole, -api.MaxWhole, 1, api.MaxWhole - 2},
		{0, api.MaxWhole, 2, api.MaxWhole - 1, 1, api.MaxWhole}, {0, -api.MaxWhole, 2, 1 - api.MaxWhole, 1, 1 - api.MaxWhole},
	} {
		keys := two(c[0], c[1], c[2], c[3])
		if at, e := reel.At(keys, c[4]); e != api.OK || at != [3]int{c[5], 0, 0} {
			t.Errorf("At of %v, %d: %v, %d, not %d", keys, c[4], at, e, c[5])
		}
		holdAt(t, keys, c[4])
	}
}

func TestAtOfDrawnKeys(t *testing.T) {
	d := die(5)
	for range 1500 {
		keys := d.keys(1+d.n(api.MaxFrames), 1+d.n(12), 1+d.n(2000))
		for time := -2; time <= keys[len(keys)-1].Time+2; time++ {
			holdAt(t, keys, time)
		}
	}
	// Far apart, and far away.
	for range 1500 {
		keys := d.keys(1+d.n(8), 1+d.n(120000), api.MaxWhole)
		for i, k := range keys {
			middle := (keys[max(0, i-1)].Time + k.Time) / 2
			for by := -2; by <= 2; by++ {
				holdAt(t, keys, k.Time+by)
				holdAt(t, keys, middle+by)
			}
			holdAt(t, keys, d.n(api.MaxWhole))
		}
	}
}

// Each time between two keys, up and down, however far apart they are.
func TestEachStepBetween(t *testing.T) {
	for _, c := range [][2]int{{-7, 7}, {7, -7}, {-3, -20}, {0, 0}, {5, 6}} {
		for gap := 1; gap <= 30; gap++ {
			for time := range gap + 3 {
				holdAt(t, two(1, c[0], 1+gap, c[1]), time)
			}
		}
	}
}

func TestAtRefuses(t *testing.T) {
	for _, keys := range [][]api.Key{
		nil, {}, even(api.MaxFrames + 1), {{Time: -1, At: [3]int{1, 2, 3}}}, {{Time: api.MaxWhole + 1, At: [3]int{1, 2, 3}}}, {{Time: 1, At: [3]int{api.MaxWhole + 1, 1, 1}}}, with(even(3), 2, api.Key{Time: 1, At: [3]int{5, 5, 5}}),
	} {
		for _, time := range []int{math.MinInt, -1, 0, 1, math.MaxInt} {
			want := reel.May(keys)
			if at, e := reel.At(keys, time); e != want || e == api.OK || at != [3]int{} {
				t.Errorf("At of %v, %d: %v, %d, not %d", keys, time, at, e, want)
			}
		}
	}
}

func TestKeysAreNotWrittenInto(t *testing.T) {
	d := die(7)
	keys := d.keys(9, 9, 500)
	kept := slices.Clone(keys)
	for time := range 90 {
		reel.May(keys)
		reel.At(keys, time)
		reel.Moved(sample(), 0, keys, time)
	}
	if !slices.Equal(keys, kept) {
		t.Errorf("%v became %v", kept, keys)
	}
	// Nor are they kept: others, in the same list, are asked as others.
	at, _ := reel.At(keys, 20)
	for i := range keys {
		keys[i].At[1] += 1000
	}
	later, _ := reel.At(keys, 20)
	if later != [3]int{at[0], at[1] + 1000, at[2]} {
		t.Errorf("%v, with keys 1000 up: %v", at, later)
	}
}
