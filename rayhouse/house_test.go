package rayhouse_test

import (
	"fmt"
	"strings"
	"testing"

	"rayhouse/api"
	"rayhouse/film"
	"rayhouse/pict"
	"rayhouse/scene"
	"rayhouse/work"
)

// die: numbers that look drawn, the same each time.
type die uint64

func (d *die) n(most int) int {
	*d = *d*6364136223846793005 + 1442695040888963407
	return int(uint64(*d>>33) % uint64(most))
}

// pick: one of them.
func (d *die) pick(l ...string) string {
	return l[d.n(len(l))]
}

// all: a scene with each kind of things.
const all = `eye 1 2 -6 to 0 0.25 0 up 0.1 1 0 wide 1.4 ;
sky 9000 20000 40000 ;
skin a spread 800 300 200 mirror 150 300 100 glass 0 0 0 bend 1 ;
skin b spread 100 100 200 mirror 200 200 200 glass 600 700 500 bend 1.4 ;
lamp 4 6 -5 light 50000 40000 65536 ;
lamp -6 3 -2 light 10000 30000 5000 ;
ball -1.5 0 0 radius 0.75 b ;
tri -3 -1 2 , 3 -1 2 , 0 3 3 a ;
tube 2 -1 0 along 0 1.5 0 radius 0.5 a ;
plate 0 -1.25 0 up 0 1 0.125 radius 5 a ;
ring 0 1.5 0 up 0 0 1 radius 1 0.25 b ;
solid less { block -0.5 -0.5 -1 to 0.5 0.5 0 ball 0 0 -1 radius 0.5 } b ;
field 3 3 at -3 -1.5 -2 side 2 high 0 0.5 0 0.25 -0.5 0.75 0 0.125 0 a ;`

// texts: scenes that are taken.
func texts(t *testing.T) []string {
	t.Helper()
	inner := func(s string) string { return strings.TrimSuffix(strings.TrimPrefix(s, "scene\n"), "\nend") }
	l := []string{all, inner(strings.TrimSuffix(example, "\n")), inner(bare)}
	for _, text := range l {
		if _, e := scene.Parse(text); e != api.OK {
			t.Fatalf("%s: %d", text, e)
		}
	}
	return l
}

func staged(text string) string {
	return "scene\n" + text + "\nend"
}

// number: one that is often at an edge.
func (d *die) number(most int) string {
	switch d.n(12) {
	case 0:
		return d.pick("0", "1", "-1", "-0", "01", "+1", "-", "9999999", "10000000", "-9999999", "1.5")
	case 1:
		return fmt.Sprint(d.n(most+3) - 1)
	}
	return fmt.Sprint(d.n(most + 1))
}

// aim: six numbers of a ray toward what is in the middle of the scenes.
func (d *die) aim() string {
	var n [6]int
	for i := range 3 {
		n[i] = d.n(16001) - 8000
		n[3+i] = (d.n(3001) - 1500 - n[i]) / (1 + d.n(9))
	}
	if d.n(15) == 0 {
		n[3], n[4], n[5] = 0, 0, 0
	}
	return strings.Trim(fmt.Sprint(n), "[]")
}

// line: one of a session.
func (d *die) line(scenes []string) string {
	switch d.n(16) {
	case 0:
		return staged(scenes[d.n(len(scenes))])
	case 1:
		return d.pick(refused, "scene\neye 0\nend", "end", "scene\nscene\nend", "", " ", "foo", "show ", " sum", "sum 1", "more 1", "hit 1 2 3", "pack  1", "scene 1")
	case 2:
		return "show"
	case 3, 4, 5:
		return "hit " + d.aim()
	case 6, 7, 8:
		return "trace " + d.aim() + " " + d.number(api.MaxDepth)
	case 9, 10:
		return "shoot " + d.number(5) + " " + d.number(5) + " " + d.number(3) + " " + d.number(3)
	case 11, 12:
		return "more " + d.number(3) + " " + d.number(3)
	case 13:
		return "text " + d.number(2000)
	case 14:
		return "pack " + d.number(2000)
	}
	return "sum"
}

// Q1, Q2

func TestDrawnSessions(t *testing.T) {
	d := die(31)
	scenes := texts(t)
	kinds := map[string]int{}
	for range 800 {
		var l []string
		// Most of them begin with a scene, and a film.
		if d.n(5) > 0 {
			l = append(l, staged(scenes[d.n(len(scenes))]))
		}
		if d.n(3) > 0 {
			l = append(l, "shoot 3 2 1 2")
		}
		for range 1 + d.n(20) {
			l = append(l, d.line(scenes))
		}
		for _, line := range hold(t, strings.Join(l, "\n")+d.pick("", "\n", "\n\n")) {
			word, _, _ := strings.Cut(line, " ")
			if word == "error" {
				word = line
			}
			kinds[word]++
		}
	}
	for _, k := range []string{"ok", "bad", "none", "thing", "P3", "eye", "error 2", "error 4", "error 5", "error 6", "error 7", "error 8", "error 13"} {
		if kinds[k] < 20 {
			t.Errorf("%s came up %d times: the test tells little", k, kinds[k])
		}
	}
}

func TestShow(t *testing.T) {
	for _, text := range texts(t) {
		s, _ := scene.Parse(text)
		want, e := scene.Print(s)
		if got := answerOf(t, "show", staged(text)); e != api.OK || got != want {
			t.Errorf("show: %q, not %q", got, want)
		}
		// What is shown may be told again, and is shown again then.
		if got := answerOf(t, "show", staged(strings.TrimSuffix(want, "\n"))); got != want {
			t.Errorf("show of what was shown: %q, not %q", got, want)
		}
	}
}

// Which thing, which piece, how far: of each kind of thing one.
func TestHit(t *testing.T) {
	for _, c := range [][2]string{
		{"hit -1500 0 -5000 0 0 1000", "thing 0 0 4250"},
		{"hit -1500 0 -5000 0 0 500", "thing 0 0 8500"},
		// 4.25 / 3, / 7, / 9.999: cut off.
		{"hit -1500 0 -5000 0 0 3000", "thing 0 0 1416"},
		{"hit -1500 0 -5000 0 0 7000", "thing 0 0 607"},
		{"hit -1500 0 -5000 0 0 9999999", "thing 0 0 0"},
		{"hit 1400 2000 -5000 0 0 1000", "none"},
		{"hit 2000 0 -5000 0 0 1000", "thing 2 0 4500"},
		// 1 less 0.25 / the square root of 26.
		{"hit 0 1500 -5000 1000 0 5000", "thing 4 0 950"},
		// The solid is hollow in front: the part 1 is its ball, the part 0 its block.
		{"hit 0 0 -5000 0 0 1000", "thing 5 1 4500"},
		{"hit 0 5000 -500 0 -1000 0", "thing 5 0 4500"},
	} {
		if got := answerOf(t, c[0], staged(all)); got != c[1]+"\n" {
			t.Errorf("%s: %q, not %s", c[0], got, c[1])
		}
	}
	// The pieces of a field: two triangles a square.
	grid := "eye 0 0 -5 to 0 0 0 up 0 1 0 wide 1 ; skin s spread 0 0 0 mirror 0 0 0 glass 0 0 0 bend 1 ; field 3 2 at 0 0 0 side 1 high 0 0 0 0 0 0 s ;"
	pieces := map[string]int{}
	for _, x := range []int{100, 900, 1100, 1900} {
		for _, z := range []int{200, 800} {
			pieces[answerOf(t, fmt.Sprintf("hit %d 2000 %d 0 -1000 0", x, z), staged(grid))]++
		}
	}
	for piece := range 4 {
		if n := pieces[fmt.Sprintf("thing 0 %d 2000\n", piece)]; n != 2 {
			t.Errorf("the piece %d was struck %d times: %v", piece, n, pieces)
		}
	}
}

// The film of shoot is that of the packages, with any workers and tiles.
func TestFilms(t *testing.T) {
	for _, text := range texts(t) {
		s, _ := scene.Parse(text)
		for _, c := range [][6]int{{1, 1, 1, 0, 1, 4}, {5, 3, 2, 4, 3, 1}, {17, 9, 1, 2, 2, 0}, {1, 9, 0, 1, 3, 2}, {64, 1, 2, 1, 0, 0}, {2, 64, 1, 1, 1, 1}} {
			w, h, n, depth, more, deep := c[0], c[1], c[2], c[3], c[4], c[5]
			ahead := []string{staged(text), fmt.Sprintf("shoot %d %d %d %d", w, h, n, depth)}
			first, _ := work.Shoot(s, w, h, 0, n, depth, 3, 5)
			holdFilm(t, first, ahead...)
			next, _ := work.Shoot(s, w, h, n, n+more, deep, 2, 16)
			merged, _ := film.Merge(first, next)
			ahead = append(ahead, fmt.Sprintf("more %d %d", more, deep))
			holdFilm(t, merged, ahead...)
			last, _ := work.Shoot(s, w, h, n+more, n+more+1, 1, 1, 1)
			merged, _ = film.Merge(merged, last)
			holdFilm(t, merged, append(ahead, "more 1 1")...)
		}
	}
}

// holdFilm: what is told of a film, in each way.
func holdFilm(t *testing.T, f api.Film, ahead ...string) {
	t.Helper()
	var sums [4]int
	for i, n := range f.Light {
		sums[i%3] += n
	}
	for _, n := range f.Shots {
		sums[3] += n
	}
	if got, want := answerOf(t, "sum", ahead...), fmt.Sprintln(sums[0], sums[1], sums[2], sums[3]); got != want {
		t.Errorf("sum behind %q: %q, not %q", ahead, got, want)
	}
	for _, bright := range []int{0, 1, 500, 1000, 3000, 1000000} {
		p, _ := film.Tone(f, bright)
		text, _ := pict.Text(p)
		if got := answerOf(t, fmt.Sprint("text ", bright), ahead...); got != text {
			t.Errorf("text %d behind %q: %.60q, not %.60q", bright, ahead, got, text)
		}
		b, _ := pict.Pack(p)
		if got := answerOf(t, fmt.Sprint("pack ", bright), ahead...); got != fmt.Sprintln(len(b)) {
			t.Errorf("pack %d behind %q: %q, not %d", bright, ahead, got, len(b))
		}
	}
}

// What is shot in parts is what is shot at once; up to MaxShots, and no shot more.
func TestShotsInParts(t *testing.T) {
	scene := staged(all)
	want := answerOf(t, "sum", scene, "shoot 4 3 16 2")
	for _, parts := range [][]string{
		{"shoot 4 3 0 2", "more 16 2"}, {"shoot 4 3 16 2", "more 0 2"}, {"shoot 4 3 1 2", "more 15 2"}, {"shoot 4 3 5 2", "more 5 2", "more 0 0", "more 6 2"}, {"shoot 9 9 9 1", "shoot 4 3 15 2", "more 2 2", "more 1 2", "more 1 2"},
	} {
		if got := answerOf(t, "sum", append([]string{scene}, parts...)...); got != want {
			t.Errorf("%q: %q, not %q", parts, got, want)
		}
	}
	ask(t, "ok\nok\nerror 6\nok\nok\nerror 6\n48000 96000 144000 48\n", bare, "shoot 3 1 14 0", "more 3 0", "more 2 0", "more 0 0", "more 1 0", "sum")
}

// A second shoot is in the first one's place.
func TestShootAnew(t *testing.T) {
	ask(t, "ok\nok\n4000 8000 12000 4\nok\n3000 6000 9000 3\nok\n6000 12000 18000 6\n", bare, "shoot 2 1 2 0", "sum", "shoot 1 3 1 4", "sum", "more 1 2", "sum")
}

func TestTextAndPack(t *testing.T) {
	// 1000, 2000, 3000 of Full: 31, 44, 54 of 255.
	ask(t, "ok\nok\nP3\n2 1\n255\n31 44 54 31 44 54\nP3\n2 1\n255\n0 0 0 0 0 0\nP3\n2 1\n255\n255 255 255 255 255 255\n13\n", bare, "shoot 2 1 1 0", "text 1000", "text 0", "text 1000000", "pack 1000")
}
