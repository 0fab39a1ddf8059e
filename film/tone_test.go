package film_test

import (
	"math"
	"math/big"
	"slices"
	"testing"

	"rayhouse/api"
	"rayhouse/film"
)

// F3

func TestShadeOfKnownLights(t *testing.T) {
	for light, want := range map[int]byte{
		0: 0, 1: 0, 2: 1, 16384: 127, 65535: 254, 65536: 255,
		// b * b * 65536 / 65025, up and down.
		4: 1, 5: 2, 9: 2, 10: 3, 16512: 127, 16513: 128, 65023: 253, 65024: 254,
		-1: 0, -2: 0, -65536: 0, math.MinInt: 0, math.MinInt + 1: 0, -1 << 62: 0, -1 << 48: 0,
		65537: 255, 1 << 20: 255, 1 << 40: 255, 1 << 47: 255, 1 << 48: 255, 1 << 62: 255, math.MaxInt - 1: 255, math.MaxInt: 255,
		math.MaxInt / 65025: 255, math.MaxInt/65025 + 1: 255, math.MinInt / 65025: 0, math.MinInt/65025 - 1: 0,
	} {
		if got := film.Shade(light); got != want {
			t.Errorf("Shade of %d: %d, not %d", light, got, want)
		}
	}
}

// Every light from 0 to Full: the shade goes up by one where its own light is reached.
func TestShadeOfEveryLight(t *testing.T) {
	want := 0
	for light := range api.Full + 1 {
		for want < 255 && (want+1)*(want+1)*65536 <= light*65025 {
			want++
		}
		if got := film.Shade(light); int(got) != want {
			t.Fatalf("Shade of %d: %d, not %d", light, got, want)
		}
	}
	if want != 255 {
		t.Errorf("up to %d only", want)
	}
}

func TestShadeOfLightsBeyond(t *testing.T) {
	d := die(7)
	for range 20000 {
		n := d.n(1<<31-1) << d.n(33)
		if got := film.Shade(api.Full + n); got != 255 {
			t.Fatalf("Shade of %d: %d", api.Full+n, got)
		}
		if got := film.Shade(-n); got != 0 {
			t.Fatalf("Shade of %d: %d", -n, got)
		}
	}
}

// toned: F3 by numbers without a bound, and a shade that is looked for from above.
func toned(light, shots, bright int) byte {
	if shots == 0 {
		shots = 1
	}
	n := new(big.Int).Div(big.NewInt(int64(light)), big.NewInt(int64(shots)))
	n.Mul(n, big.NewInt(int64(bright)))
	n.Div(n, big.NewInt(1000))
	n.Mul(n, big.NewInt(65025))
	for b := int64(255); b > 0; b-- {
		if big.NewInt(b*b*65536).Cmp(n) <= 0 {
			return byte(b)
		}
	}
	return 0
}

func tonedFilm(f api.Film, bright int) (pix []byte) {
	for i, shots := range f.Shots {
		for c := range 3 {
			pix = append(pix, toned(f.Light[3*i+c], shots, bright))
		}
		pix = append(pix, map[bool]byte{true: 0, false: 255}[shots == 0])
	}
	return pix
}

func TestToneOfKnownFilms(t *testing.T) {
	for _, c := range []struct {
		light  [3]int
		shots  int
		bright int
		want   [4]byte
	}{
		{[3]int{0, 0, 0}, 0, 1000, [4]byte{0, 0, 0, 0}},
		{[3]int{0, 0, 0}, 1, 1000, [4]byte{0, 0, 0, 255}},
		{[3]int{65536, 16384, 2}, 0, 1000, [4]byte{255, 127, 1, 0}},
		{[3]int{65536, 16384, 2}, 1, 1000, [4]byte{255, 127, 1, 255}},
		{[3]int{65536, 32768, 3}, 2, 1000, [4]byte{180, 127, 0, 255}},
		{[3]int{3 * 65536, 3*65536 - 1, 8}, 3, 1000, [4]byte{255, 254, 1, 255}},
		{[3]int{65536, 32768, 4}, 1, 500, [4]byte{180, 127, 1, 255}},
		{[3]int{65536, 65537, 65600}, 1, 999, [4]byte{254, 254, 254, 255}},
		{[3]int{65536, 65535, 2}, 1, 0, [4]byte{0, 0, 0, 255}},
		{[3]int{65536, 65535, 2}, 1, 1, [4]byte{8, 8, 0, 255}},
		{[3]int{65536, 1, 0}, 1, 1000000, [4]byte{255, 31, 0, 255}},
		{[3]int{mostLight, mostLight, mostLight}, 1, 1000000, [4]byte{255, 255, 255, 255}},
		{[3]int{mostLight, mostLight - 1, 1 << 20}, mostShots, 1000, [4]byte{255, 255, 0, 255}},
		{[3]int{mostLight, mostLight - 1, 1 << 20}, mostShots, 62, [4]byte{253, 253, 0, 255}},
		// Each is cut off by itself: through the shots first, then by how bright it is.
		{[3]int{5, 2, 3}, 3, 1000000, [4]byte{31, 0, 31, 255}},
		{[3]int{1999, 2000, 1}, 1000, 1000000, [4]byte{31, 44, 0, 255}},
	} {
		f := api.Film{W: 1, H: 1, Light: c.light[:], Shots: []int{c.shots}}
		p, e := film.Tone(f, c.bright)
		if e != api.OK || p.W != 1 || p.H != 1 || !slices.Equal(p.Pix, c.want[:]) || !slices.Equal(p.Pix, tonedFilm(f, c.bright)) {
			t.Errorf("Tone of %v, %d: %v, %d, not %v", f, c.bright, p, e, c.want)
		}
	}
}

func TestToneHeldAgainstASecondWorking(t *testing.T) {
	d := die(8)
	kinds := map[int]int{}
	for range 300 {
		f := d.drawn(1+d.n(5), 1+d.n(5))
		for i := range f.Light {
			f.Light[i] = d.n(70000 * 4)
		}
		if d.n(5) == 0 {
			f = d.drawn(f.W, f.H)
		}
		for _, n := range f.Shots {
			kinds[min(n, 2)]++
		}
		for _, bright := range []int{0, 1, 500, 999, 1000, 1001, 999999, 1000000, d.n(3000)} {
			p, e := film.Tone(f, bright)
			if want := tonedFilm(f, bright); e != api.OK || p.W != f.W || p.H != f.H || !slices.Equal(p.Pix, want) {
				t.Fatalf("Tone of %v, %d: %v, %d, not %v", f, bright, p, e, want)
			}
		}
	}
	if kinds[0] < 100 || kinds[1] < 100 || kinds[2] < 100 {
		t.Errorf("%v: the test tells little", kinds)
	}
	big := d.drawn(api.MaxSide, api.MaxSide)
	if p, e := film.Tone(big, 1000); e != api.OK || p.W != api.MaxSide || p.H != api.MaxSide || !slices.Equal(p.Pix, tonedFilm(big, 1000)) {
		t.Errorf("Tone of the greatest: %d", e)
	}
}

func TestToneRefuses(t *testing.T) {
	hold := func(f api.Film, bright int, want api.Errno) {
		t.Helper()
		if p, e := film.Tone(f, bright); e != want || p.W != 0 || p.H != 0 || len(p.Pix) != 0 {
			t.Errorf("Tone of %d by %d, %d: %v, %d, not %d", f.W, f.H, bright, p, e, want)
		}
	}
	bad := []int{-1, 1000001, -1000000, math.MinInt, math.MaxInt, 1 << 32}
	for _, c := range refused() {
		hold(c.f, 1000, c.want)
		for _, bright := range bad {
			hold(c.f, bright, c.want)
		}
	}
	for _, bright := range bad {
		hold(nought(2, 3), bright, api.ErrValue)
	}
	for _, bright := range []int{0, 1000000} {
		if p, e := film.Tone(nought(2, 3), bright); e != api.OK || len(p.Pix) != 24 {
			t.Errorf("Tone with %d: %v, %d", bright, p, e)
		}
	}
}

func TestToneIsFresh(t *testing.T) {
	d := die(9)
	f := d.drawn(3, 2)
	p, _ := film.Tone(f, 1000)
	q, _ := film.Tone(f, 1000)
	kept := slices.Clone(q.Pix)
	pix := p.Pix[:cap(p.Pix)]
	for i := range pix {
		pix[i] ^= 255
	}
	if !slices.Equal(q.Pix, kept) {
		t.Error("two pictures share their pixels")
	}
	if again, _ := film.Tone(f, 1000); !slices.Equal(again.Pix, kept) {
		t.Error("a picture changes with one that came out ahead")
	}
}
