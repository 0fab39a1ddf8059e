package rayhouse_test

import (
	"fmt"
	"strings"
	"testing"

	"rayhouse/api"
)

// lines: one of each word of the table, with as many numbers as it has; and whether it asks for a film.
var lines = []struct {
	line string
	film bool
}{
	{"show", false}, {"hit 1 2 3 4 5 6", false}, {"trace 1 2 3 4 5 6 1", false}, {"shoot 1 2 3 4", false},
	{"more 1 2", true}, {"sum", true}, {"text 1", true}, {"pack 1", true},
}

// answerOf: what is answered to a line behind others.
func answerOf(t *testing.T, line string, ahead ...string) string {
	t.Helper()
	head := ""
	for _, l := range ahead {
		head += l + "\n"
	}
	first, all := session(t, head), session(t, head+line+"\n")
	if !strings.HasPrefix(all, first) {
		t.Fatalf("%q: %q does not begin with %q", line, all, first)
	}
	return all[len(first):]
}

// Q2

// Without a scene what is well told is answered by an error, and what isn't by bad.
func TestNoScene(t *testing.T) {
	for _, l := range lines {
		if got := answerOf(t, l.line); got != "error 13\n" {
			t.Errorf("%s: %q", l.line, got)
		}
		if got := answerOf(t, l.line, refused); got != "error 13\n" {
			t.Errorf("%s behind a scene that was refused: %q", l.line, got)
		}
	}
	// Whatever its numbers are.
	for _, line := range []string{"hit 0 0 0 0 0 0", "trace 0 0 0 0 0 0 -1", "shoot 0 0 -1 99", "more -1 -1", "text -1", "pack 9999999"} {
		if got := answerOf(t, line); got != "error 13\n" {
			t.Errorf("%s: %q", line, got)
		}
	}
}

func TestASceneAndNoFilm(t *testing.T) {
	for _, l := range lines {
		got := answerOf(t, l.line, bare)
		if l.film != (got == "error 13\n") || got == "bad\n" {
			t.Errorf("%s: %q", l.line, got)
		}
	}
	for _, line := range []string{"more -1 -1", "more 99 99", "text -1", "pack -1", "text 1000001"} {
		if got := answerOf(t, line, bare); got != "error 13\n" {
			t.Errorf("%s: %q", line, got)
		}
	}
	// A film that was refused is none.
	for _, line := range []string{"shoot 0 1 1 0", "shoot 1 1 17 0", "shoot 1 1 1 5"} {
		for _, l := range lines {
			if got := answerOf(t, l.line, bare, line); l.film && got != "error 13\n" {
				t.Errorf("%s behind %s: %q", l.line, line, got)
			}
		}
	}
}

func TestASceneAndAFilm(t *testing.T) {
	for _, l := range lines {
		if got := answerOf(t, l.line, bare, "shoot 1 1 1 0"); strings.HasPrefix(got, "error") || strings.HasPrefix(got, "bad") {
			t.Errorf("%s: %q", l.line, got)
		}
	}
	// Even one without shots.
	ask(t, "ok\nok\n0 0 0 0\nP3\n2 1\n255\n0 0 0 0 0 0\n13\nok\n2000 4000 6000 2\n", bare, "shoot 2 1 0 0", "sum", "text 1000", "pack 1000", "more 1 0", "sum")
}

// isBad: whether a line is answered so; with no scene, with a scene and with a film alike.
func isBad(t *testing.T, line string) bool {
	t.Helper()
	bad := answerOf(t, line) == "bad\n"
	for _, ahead := range [][]string{{bare}, {bare, "shoot 1 1 1 0"}} {
		if got := answerOf(t, line, ahead...); (got == "bad\n") != bad {
			t.Errorf("%q behind %q: %q", line, ahead, got)
		}
	}
	return bad
}

func TestWords(t *testing.T) {
	for _, line := range []string{"", "foo", "bad", "ok", "none", "thing", "error 13", "Show", "SHOW", "sho", "shows", "show;", "summ", "su", "sum.", "0", "-1", "1 2", "end", "sum sum", "show sum", "thing 1 2 3", "pack1", "text1000", "hit1 2 3 4 5 6", "trace1 2 3 4 5 6 1", "ſhow", "show\x00", "quit", "exit", "help", "scene end", "film", "shot 1 1 1 1"} {
		if !isBad(t, line) {
			t.Errorf("%q isn't bad", line)
		}
	}
}

func TestHowManyNumbers(t *testing.T) {
	for _, l := range lines {
		words := strings.Split(l.line, " ")
		for n := range 12 {
			line := words[0] + strings.Repeat(" 1", n)
			if isBad(t, line) != (n != len(words)-1) {
				t.Errorf("%q: is it bad? %t", line, n == len(words)-1)
			}
		}
	}
}

func TestBlanks(t *testing.T) {
	for _, l := range lines {
		changed := []string{" " + l.line, l.line + " ", "  " + l.line, l.line + "  ", " " + l.line + " ", l.line + "\t", "\t" + l.line, l.line + "\r", l.line + ",", l.line + "\u00a0"}
		for i, r := range l.line {
			if r == ' ' {
				for _, gap := range []string{"  ", "   ", "\t", " \t", ", ", "\u00a0", "\v", ""} {
					changed = append(changed, l.line[:i]+gap+l.line[i+1:])
				}
			}
		}
		for _, line := range changed {
			if !isBad(t, line) {
				t.Errorf("%q isn't bad", line)
			}
		}
		if isBad(t, l.line) {
			t.Errorf("%q is bad", l.line)
		}
	}
}

func TestNumbers(t *testing.T) {
	good := []string{"0", "1", "-1", "9", "-9", "10", "-10", "100", "999999", "1000000", "9999999", "-9999999", "-1000000", "1234567", "-7654321"}
	wrong := []string{"-0", "00", "000", "-00", "01", "-01", "0000001", "0123456", "+1", "+0", "-", "+", "--1", "-+1", "1-", "10000000", "-10000000", "99999999", "12345678", "-12345678", "00000000", "00000001", "1.0", "1.", ".5", "1e3", "0x1", "0b1", "0o7", "1_0", "1,0", "a", "1a", "a1", "\u0661", "\uff11", "9999999999999999999", "18446744073709551617", "-9223372036854775808", "100000000000000000000000", "NaN", "Inf", "x", ";", "1;", "'1'"}
	for _, l := range lines {
		words := strings.Split(l.line, " ")
		for at := 1; at < len(words); at++ {
			told := func(n string) string {
				return strings.Join(append(append(append([]string{}, words[:at]...), n), words[at+1:]...), " ")
			}
			for _, n := range good {
				if got := answerOf(t, told(n)); got != "error 13\n" {
					t.Errorf("%q: %q", told(n), got)
				}
			}
			for _, n := range wrong {
				if !isBad(t, told(n)) {
					t.Errorf("%q isn't bad", told(n))
				}
			}
		}
	}
}

// Numbers are what they say: a ray from far away, along seven digits.
func TestNumbersOfSevenDigits(t *testing.T) {
	text := "scene\neye 0 0 -5 to 0 0 0 up 0 1 0 wide 1 ;\nskin s spread 0 0 0 mirror 0 0 0 glass 0 0 0 bend 1 ;\nblock -1 -1 -1 to 1 1 1 s ;\nend"
	for _, c := range [][2]string{
		{"hit 0 0 -9999999 0 0 1", "thing 0 0 9998999000"},
		{"hit 0 0 9999999 0 0 -1", "thing 0 0 9998999000"},
		{"hit 9999999 0 0 -1 0 0", "thing 0 0 9998999000"},
		{"hit 0 -9999999 0 0 1000 0", "thing 0 0 9998999"},
		{"hit 0 0 -9999999 0 0 9999999", "thing 0 0 999"},
		{"hit 0 0 -9999999 0 0 -9999999", "none"},
		{"hit 1000 0 -5000 0 0 1000", "thing 0 0 4000"},
		{"hit 1001 0 -5000 0 0 1000", "none"},
		{"hit 0 0 0 0 0 1000", "thing 0 0 1000"},
	} {
		if got := answerOf(t, c[0], text); got != c[1]+"\n" {
			t.Errorf("%s: %q, not %s", c[0], got, c[1])
		}
	}
	hold(t, text+"\nhit 9999999 -9999999 9999999 -9999999 9999999 -9999999\nhit -9999999 0 0 9999999 1 -1\n")
}

// Numbers of a line are, bit by bit, those of a scene: a ray meets the very side of a block, and comes to one that is just as far as its direction is long at 1.
func TestNumbersAreThoseOfScenes(t *testing.T) {
	head := "eye 0 0 -5 to 0 0 0 up 0 1 0 wide 1 ; skin s spread 0 0 0 mirror 0 0 0 glass 0 0 0 bend 1 ; "
	// along: three numbers, one of them n, the two others m.
	along := func(axis, n, m int) string {
		l := [3]int{m, m, m}
		l[axis] = n
		return fmt.Sprint(l[0], " ", l[1], " ", l[2])
	}
	thousandth := func(axis, n, m int) string {
		l := [3]string{fmt.Sprint(m), fmt.Sprint(m), fmt.Sprint(m)}
		l[axis] = fmt.Sprintf("%d.%03d", n/1000, n%1000)
		return strings.Join(l[:], " ")
	}
	for n := 1; n < 10000; n += 1 + n/9 {
		for axis := range 3 {
			other := (axis + 1) % 3
			side := staged(head + "block -20 -20 -20 to " + thousandth(axis, n, 20) + " s ;")
			if got := answerOf(t, "hit "+along(axis, n, -1)+" "+along(other, 1000, 0), side); got != "thing 0 0 20001\n" {
				t.Errorf("along the side %d of the axis %d: %q", n, axis, got)
			}
			if got := answerOf(t, "hit "+along(axis, n+1, -1)+" "+along(other, 1000, 0), side); got != "none\n" {
				t.Errorf("beside the side %d of the axis %d: %q", n, axis, got)
			}
			ahead := staged(head + "block " + thousandth(axis, n, -20) + " to 20 20 20 s ;")
			if got := answerOf(t, "hit 0 0 0 "+along(axis, n, 0), ahead); got != "thing 0 0 1000\n" {
				t.Errorf("toward what is %d away along the axis %d: %q", n, axis, got)
			}
		}
	}
}

// The first error is told: of a direction of 0 ahead of the depth, of sides ahead of shots.
func TestTheOrderOfErrors(t *testing.T) {
	film := []string{bare, "shoot 2 2 15 4"}
	for _, c := range []struct {
		line string
		want api.Errno
	}{
		{"hit 0 0 0 0 0 0", api.ErrZero}, {"hit 1 2 3 0 0 0", api.ErrZero}, {"trace 0 0 0 0 0 0 0", api.ErrZero}, {"trace 0 0 0 0 0 0 5", api.ErrZero}, {"trace 0 0 0 0 0 0 -1", api.ErrZero},
		{"trace 0 0 0 0 0 1 5", api.ErrValue}, {"trace 0 0 0 0 0 1 -1", api.ErrValue}, {"trace 0 0 0 0 0 1 9999999", api.ErrValue},
		{"shoot 0 1 1 1", api.ErrLimit}, {"shoot 1 0 1 1", api.ErrLimit}, {"shoot -1 1 1 1", api.ErrLimit}, {"shoot 65 1 1 1", api.ErrLimit}, {"shoot 1 65 1 1", api.ErrLimit}, {"shoot 65 1 17 5", api.ErrLimit}, {"shoot 0 0 -1 -1", api.ErrLimit},
		{"shoot 1 1 17 1", api.ErrValue}, {"shoot 1 1 -1 1", api.ErrValue}, {"shoot 1 1 1 5", api.ErrValue}, {"shoot 1 1 1 -1", api.ErrValue}, {"shoot 1 1 9999999 9999999", api.ErrValue},
		{"more 2 0", api.ErrValue}, {"more -1 0", api.ErrValue}, {"more 1 5", api.ErrValue}, {"more 1 -1", api.ErrValue}, {"more 9999999 0", api.ErrValue}, {"more -9999999 0", api.ErrValue}, {"more 0 5", api.ErrValue},
		{"text -1", api.ErrValue}, {"text 1000001", api.ErrValue}, {"pack -1", api.ErrValue}, {"pack 1000001", api.ErrValue}, {"pack -9999999", api.ErrValue},
	} {
		want := fmt.Sprintf("error %d\n", c.want)
		if got := answerOf(t, c.line, film...); got != want {
			t.Errorf("%s: %q, not %q", c.line, got, want)
		}
		// What is refused leaves all as it was.
		whole := []string{"sum", "more 1 4", "sum", "show"}
		without, with := session(t, strings.Join(append(film, whole...), "\n")), session(t, strings.Join(append(append(film, c.line), whole...), "\n"))
		if strings.Replace(with, want, "", 1) != without {
			t.Errorf("behind %s: %q, not %q", c.line, with, without)
		}
	}
}
