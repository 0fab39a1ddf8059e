package rayhouse_test

import (
	"fmt"
	"math"
	"regexp"
	"strings"
	"testing"

	"rayhouse/api"
	"rayhouse/bounce"
	"rayhouse/film"
	"rayhouse/pict"
	"rayhouse/scene"
	"rayhouse/tree"
	"rayhouse/work"
)

// second: another house, by what the packages answer themselves. Lines are told by patterns; a scene that is taken is kept as its text; a film is kept as all that was shot, and is shot anew, by one worker, each time that it is asked for.
type second struct {
	text  string
	taken bool
	parts []part
}

// part: some shots of a film.
type part struct {
	w, h, from, to, depth int
}

// patterns: a word, and as many numbers as it has; the one behind it says whether a film is asked for.
var patterns = []struct {
	line *regexp.Regexp
	film bool
	does func(*second, [7]int) string
}{
	{pattern("show", 0), false, (*second).show},
	{pattern("hit", 6), false, (*second).hit},
	{pattern("trace", 7), false, (*second).trace},
	{pattern("shoot", 4), false, (*second).shoot},
	{pattern("more", 2), true, (*second).more},
	{pattern("sum", 0), true, (*second).sum},
	{pattern("text", 1), true, (*second).toned},
	{pattern("pack", 1), true, (*second).packed},
}

func pattern(word string, numbers int) *regexp.Regexp {
	return regexp.MustCompile(`\A` + word + strings.Repeat(` (?:0|-?[1-9][0-9]{0,6})`, numbers) + `\z`)
}

// secondSession: the lines of a text's answer.
func secondSession(text string) []string {
	if len(text) > 20000 {
		return []string{"too long"}
	}
	if text != "" && !strings.HasSuffix(text, "\n") {
		text += "\n"
	}
	if strings.Count(text, "\n") > 300 {
		return []string{"too long"}
	}
	var s second
	var answers []string
	for text != "" {
		line, rest, _ := strings.Cut(text, "\n")
		text = rest
		if line == "scene" {
			inner := ""
			for text != "" {
				line, text, _ = strings.Cut(text, "\n")
				if line == "end" {
					break
				}
				inner += line + "\n"
			}
			answers = append(answers, s.take(inner))
			continue
		}
		answers = append(answers, strings.Split(strings.TrimSuffix(s.line(line), "\n"), "\n")...)
	}
	return answers
}

func fault(e api.Errno) string { return fmt.Sprintf("error %d", e) }

func (s *second) take(text string) string {
	if _, e := scene.Parse(text); e != api.OK {
		return fault(e)
	}
	*s = second{text: text, taken: true}
	return "ok"
}

func (s *second) line(line string) string {
	for _, p := range patterns {
		if !p.line.MatchString(line) {
			continue
		}
		if !s.taken || p.film && s.parts == nil {
			return fault(api.ErrState)
		}
		var numbers [7]int
		_, behind, _ := strings.Cut(line, " ")
		fmt.Sscan(behind, &numbers[0], &numbers[1], &numbers[2], &numbers[3], &numbers[4], &numbers[5], &numbers[6])
		return p.does(s, numbers)
	}
	return "bad"
}

func (s *second) scene() api.Scene {
	x, _ := scene.Parse(s.text)
	return x
}

func ray(n [7]int) (r api.Ray) {
	for i, x := range []*float64{&r.From.X, &r.From.Y, &r.From.Z, &r.Dir.X, &r.Dir.Y, &r.Dir.Z} {
		*x = float64(n[i]) / 1000
	}
	return r
}

func (s *second) show([7]int) string {
	text, e := scene.Print(s.scene())
	if e != api.OK {
		return fault(e)
	}
	return text
}

func (s *second) hit(n [7]int) string {
	x := s.scene()
	all, _ := tree.Build(x.Shapes, x.Solids, x.Fields)
	f, e := all.Nearest(ray(n))
	if e != api.OK {
		return fault(e)
	}
	if f.Which == -1 {
		return "none"
	}
	return fmt.Sprintf("thing %d %d %.0f", f.Which, f.Piece, math.Floor(f.T*1000))
}

func (s *second) trace(n [7]int) string {
	world, _ := bounce.Open(s.scene())
	light, e := world.Trace(ray(n), n[6])
	if e != api.OK {
		return fault(e)
	}
	return strings.Trim(fmt.Sprint(light), "[]")
}

// put: one part more, if that may be shot.
func (s *second) put(parts []part, p part) string {
	if e := work.May(p.w, p.h, p.from, p.to, p.depth, 1, 1); e != api.OK {
		return fault(e)
	}
	s.parts = append(parts, p)
	return "ok"
}

func (s *second) shoot(n [7]int) string {
	return s.put(nil, part{n[0], n[1], 0, n[2], n[3]})
}

func (s *second) more(n [7]int) string {
	last := s.parts[len(s.parts)-1]
	return s.put(s.parts, part{last.w, last.h, last.to, last.to + n[0], n[1]})
}

func (s *second) film() api.Film {
	all, _ := film.New(s.parts[0].w, s.parts[0].h)
	for _, p := range s.parts {
		f, _ := work.Shoot(s.scene(), p.w, p.h, p.from, p.to, p.depth, 1, 1)
		all, _ = film.Merge(all, f)
	}
	return all
}

func (s *second) sum([7]int) string {
	f := s.film()
	red, green, blue, shots := 0, 0, 0, 0
	for i := range f.W * f.H {
		red, green, blue, shots = red+f.Light[3*i], green+f.Light[3*i+1], blue+f.Light[3*i+2], shots+f.Shots[i]
	}
	return fmt.Sprint(red, green, blue, shots)
}

func (s *second) toned(n [7]int) string {
	p, e := film.Tone(s.film(), n[0])
	if e != api.OK {
		return fault(e)
	}
	text, _ := pict.Text(p)
	return text
}

func (s *second) packed(n [7]int) string {
	p, e := film.Tone(s.film(), n[0])
	if e != api.OK {
		return fault(e)
	}
	b, _ := pict.Pack(p)
	return fmt.Sprint(len(b))
}

// hold: the answer of a text, line by line, against the second house.
func hold(t *testing.T, text string) []string {
	t.Helper()
	answer := session(t, text)
	want := secondSession(text)
	got := strings.Split(answer, "\n")
	got = got[:len(got)-1]
	for i, line := range want {
		if i >= len(got) || got[i] != line {
			t.Fatalf("%q: the line %d of\n%s\nis not %q", text, i, answer, line)
		}
	}
	if len(got) > len(want) {
		t.Fatalf("%q: the answer is longer than %q:\n%s", text, want, answer)
	}
	return got
}
