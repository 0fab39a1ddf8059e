package rayhouse_test

import (
	"strings"
	"sync"
	"testing"

	"rayhouse/api"
	"rayhouse/rayhouse"
	"rayhouse/scene"
)

// session: the answer of a text: nothing, or lines with a newline behind the last one.
func session(t *testing.T, text string) string {
	t.Helper()
	answer := rayhouse.Session(text)
	if answer != "" && !strings.HasSuffix(answer, "\n") {
		t.Fatalf("%q: no newline behind the last line of %q", text, answer)
	}
	return answer
}

// ask: lines, each with a newline behind it, and what is to be answered.
func ask(t *testing.T, want string, lines ...string) {
	t.Helper()
	text := strings.Join(lines, "\n") + "\n"
	if got := session(t, text); got != want {
		t.Errorf("%q: %q, not %q", text, got, want)
	}
}

const (
	// bare: the shortest of scenes: a sky alone.
	bare = "scene\neye 0 0 -5 to 0 0 0 up 0 1 0 wide 1 ;\nsky 1000 2000 3000 ;\nend"
	// other: another one.
	other = "scene\neye 0 0 -5 to 0 0 0 up 0 1 0 wide 1 ;\nsky 10 20 30 ;\nend"
	// refused: one that has no eye.
	refused = "scene\nsky 1 2 3 ;\nend"
)

const example = `scene
eye 0 1 -5 to 0 0 0 up 0 1 0 wide 1.2 ;
sky 20000 30000 65536 ;
skin r spread 700 100 100 mirror 100 100 100 glass 0 0 0 bend 1 ;
skin glas1 spread 0 0 0 mirror 100 100 100 glass 800 800 800 bend 1.5 ;
lamp 3 5 -4 light 60000 60000 60000 ;
plate 0 -1 0 up 0 1 0 radius 6 r ;
ball 0 0 0 radius 1 glas1 ;
repeat 2 by 2 0 0 { block 1 -1 1 to 2 0 2 r ; }
end
`

func TestTheDocumentsSession(t *testing.T) {
	for _, c := range [][2]string{
		{example, "ok"},
		{"hit 0 0 -5000 0 0 1000", "thing 1 0 4000"},
		{"hit 0 9000 -5000 0 0 1000", "none"},
		{"trace 0 0 -5000 50 -300 1000 4", "37598 7309 9846"},
		{"trace 0 0 -5000 0 0 1000 5", "error 6"},
		{"sum", "error 13"},
		{"foo", "bad"},
	} {
		text, want := c[0], c[1]+"\n"
		if text != example {
			text, want = example+text, "ok\n"+want
		}
		if got := session(t, text); got != want {
			t.Errorf("%s: %q, not %q", c[0], got, want)
		}
	}
	text := example + "hit 0 0 -5000 0 0 1000\nhit 0 9000 -5000 0 0 1000\ntrace 0 0 -5000 50 -300 1000 4\ntrace 0 0 -5000 0 0 1000 5\nsum\nshoot 4 3 2 3\nsum\nmore 1 3\nsum\npack 1000\nfoo\n"
	want := "ok\nthing 1 0 4000\nnone\n37598 7309 9846\nerror 6\nerror 13\nok\n613956 406167 823101 24\nok\n883058 615471 1256102 36\n54\nbad\n"
	if got := session(t, text); got != want {
		t.Errorf("%q, not %q", got, want)
	}
	hold(t, text)
}

// Q1

func TestWhereLinesAreCut(t *testing.T) {
	for text, want := range map[string]string{
		"": "", "\n": "bad\n", "\n\n": "bad\nbad\n", "\n\n\n": "bad\nbad\nbad\n",
		"show": "error 13\n", "show\n": "error 13\n", "show\n\n": "error 13\nbad\n", "\nshow": "bad\nerror 13\n", "\nshow\n": "bad\nerror 13\n",
		"show\nx": "error 13\nbad\n", "x\nshow": "bad\nerror 13\n", "show\n\nshow": "error 13\nbad\nerror 13\n",
		"show\r\nshow\r\n": "bad\nbad\n", "show\rshow": "bad\n", "show\x00": "bad\n", "show\vshow\f": "bad\n", "show\u2028show": "bad\n", "show\u0085": "bad\n", "show\t": "bad\n", " ": "bad\n", "\xff": "bad\n", "\x00": "bad\n",
	} {
		if got := session(t, text); got != want {
			t.Errorf("%q: %q, not %q", text, got, want)
		}
		hold(t, text)
	}
}

func TestTooManyBytes(t *testing.T) {
	long := func(head string, n int) string {
		return head + strings.Repeat("x", n-len(head))
	}
	for _, c := range []struct {
		text, want string
	}{
		{long("", api.MaxText-1), "bad\n"}, {long("", api.MaxText), "bad\n"}, {long("", api.MaxText+1), "too long\n"}, {long("", 10*api.MaxText), "too long\n"},
		{long("show\n", api.MaxText), "error 13\nbad\n"}, {long("show\n", api.MaxText+1), "too long\n"},
		{long("", api.MaxText-1) + "\n", "bad\n"}, {long("", api.MaxText) + "\n", "too long\n"},
		// It is bytes that count, not runes.
		{strings.Repeat("ß", api.MaxText/2), "bad\n"}, {strings.Repeat("ß", api.MaxText/2) + "x", "too long\n"}, {strings.Repeat("ß", api.MaxText/2+1), "too long\n"},
		{strings.Repeat("show\n", 300), strings.Repeat("error 13\n", 300)},
		{strings.Repeat(" ", api.MaxText), "bad\n"}, {strings.Repeat(" ", api.MaxText+1), "too long\n"},
		{"hit" + strings.Repeat(" 1", (api.MaxText-3)/2), "bad\n"},
	} {
		if got := session(t, c.text); got != c.want {
			t.Errorf("%d bytes, %.20q ..: %.40q, not %.40q", len(c.text), c.text, got, c.want)
		}
	}
	// A scene that is as long as may be; the blanks are between its tokens.
	head, tail := "scene\neye 0 0 -5 to 0 0 0 up 0 1 0 wide 1 ;", "\nend\nhit 0 0 0 0 0 1\n"
	gap := strings.Repeat(" ", api.MaxText-len(head)-len(tail))
	if got := session(t, head+gap+tail); got != "ok\nnone\n" {
		t.Errorf("a long scene: %q", got)
	}
	if got := session(t, head+gap+" "+tail); got != "too long\n" {
		t.Errorf("a scene that is too long: %q", got)
	}
}

func TestTooManyLines(t *testing.T) {
	for n, ok := range map[int]bool{1: true, 299: true, 300: true, 301: false, 302: false, 5000: false} {
		for line, answer := range map[string]string{"": "bad\n", "x": "bad\n", "sum": "error 13\n"} {
			want := "too long\n"
			if ok {
				want = strings.Repeat(answer, n)
			}
			text := strings.Repeat(line+"\n", n)
			if got := session(t, text); got != want {
				t.Errorf("%d lines %q: %.40q, not %.40q", n, line, got, want)
			}
			// With nothing behind the last newline, the last line is as if it had none.
			if line != "" {
				if got := session(t, strings.TrimSuffix(text, "\n")); got != want {
					t.Errorf("%d lines %q, no newline behind: %.40q, not %.40q", n, line, got, want)
				}
			}
		}
	}
	// 300 lines and an empty one, which isn't the last piece.
	if got := session(t, strings.Repeat("x\n", 300)+"\n"); got != "too long\n" {
		t.Errorf("an empty line behind 300: %.40q", got)
	}
	// The lines of scenes count, too.
	head, tail := "scene\neye 0 0 -5 to 0 0 0 up 0 1 0 wide 1 ;\n", "end\nhit 0 0 0 0 0 1\n"
	for n, want := range map[int]string{295: "ok\nnone\n", 296: "ok\nnone\n", 297: "too long\n"} {
		if got := session(t, head+strings.Repeat("\n", n)+tail); got != want {
			t.Errorf("a scene with %d empty lines: %.40q, not %.40q", n, got, want)
		}
	}
}

// Nothing of a text that is too long is answered, whatever stands ahead.
func TestTooLongAlone(t *testing.T) {
	ask(t, "too long\n", bare, strings.Repeat("show\n", 300))
	ask(t, "too long\n", bare, "show", strings.Repeat("x", api.MaxText))
	hold(t, bare+strings.Repeat("\nx", 400))
}

func TestScenes(t *testing.T) {
	ask(t, "ok\n", bare)
	ask(t, "ok\neye 0 0 -5 to 0 0 0 up 0 1 0 wide 1 ;\nsky 1000 2000 3000 ;\n", bare, "show")
	// The newlines between its lines are between its tokens, too.
	ask(t, "ok\neye 0 0 -5 to 0 0 0 up 0 1 0 wide 1 ;\nsky 1 2 3 ;\n", "scene", "eye 0", "0", "-5 to 0 0 0 up 0 1 0 wide", "", "1", ";", "sky 1 2", "3 ;", "end", "show")
	// No line at all, and empty ones: there is no eye.
	ask(t, "error 5\n", "scene", "end")
	ask(t, "error 5\nbad\n", "scene", "", "", "end", "")
	ask(t, "error 5\n", "scene")
	ask(t, "error 5\n", "scene", "", "")
}

// Up to the last line, if there is no end.
func TestSceneWithoutEnd(t *testing.T) {
	eye := "eye 0 0 -5 to 0 0 0 up 0 1 0 wide 1 ;"
	ask(t, "ok\n", "scene", eye)
	ask(t, "ok\n", "scene", eye, "sky 1 2", "3 ;")
	ask(t, "error 7\n", "scene", eye, "show")
	ask(t, "ok\nerror 8\n", bare, "scene", "eye 0")
	ask(t, "ok\nok\n", bare, "scene", eye)
	for _, text := range []string{"scene", "scene\n", "scene\n\n"} {
		if got := session(t, text); got != "error 5\n" {
			t.Errorf("%q: %q", text, got)
		}
	}
	if got := session(t, "scene\n"+eye); got != "ok\n" {
		t.Errorf("no newline behind: %q", got)
	}
	if got := session(t, "scene\n"+eye+"\nend"); got != "ok\n" {
		t.Errorf("no newline behind the end: %q", got)
	}
}

func TestEndAlone(t *testing.T) {
	ask(t, "bad\n", "end")
	ask(t, "ok\nbad\nnone\n", bare, "end", "hit 0 0 0 0 0 1")
	ask(t, "bad\nok\nbad\nbad\n", "end", bare, "end", "end")
}

// Within a scene the line scene is a token that can't stand there; the first end ends it.
func TestSceneWithinAScene(t *testing.T) {
	ask(t, "error 7\n", "scene", bare)
	ask(t, "error 7\nbad\n", "scene", bare, "end")
	ask(t, "ok\nerror 7\nerror 13\nok\n", bare, "scene", "scene", "end", "sum", other)
}

// Only the whole line is one that begins a scene, or ends it.
func TestLinesLikeSceneAndEnd(t *testing.T) {
	for _, line := range []string{" scene", "scene ", "scene 1", "Scene", "SCENE", "scene\r", "scenes", "scene;", "scene end", "\tscene", "ßcene"} {
		ask(t, "bad\nerror 13\n", line, "show")
	}
	eye := "eye 0 0 -5 to 0 0 0 up 0 1 0 wide 1 ;"
	for _, line := range []string{" end", "end ", "End", "end\r", "ends", "end;", "end 1", "end end"} {
		ask(t, "error 7\nerror 13\n", "scene", eye, line, "sum", "end", "show")
	}
	// A name that is called so ends nothing.
	ask(t, "ok\nnone\n", "scene", eye, "skin end spread 0 0 0 mirror 0 0 0 glass 0 0 0 bend 1 ;", "end", "hit 0 0 0 0 0 1")
	// But a line with nothing else does, even there.
	ask(t, "error 8\nbad\n", "scene", eye, "skin", "end", "spread 0 0 0 mirror 0 0 0 glass 0 0 0 bend 1 ;")
}

// Each error of a scene, by its number.
func TestErrorsOfScenes(t *testing.T) {
	for text, e := range map[string]api.Errno{
		"sky 1 2 3 ;":                            api.ErrCount,
		"eye 0":                                  api.ErrShort,
		"eye 0 0 x":                              api.ErrWord,
		"sky 1 2 65537 ;":                        api.ErrValue,
		"sky 1 2 3 ; sky":                        api.ErrDouble,
		"repeat 1 by 0 0 0 { eye":                api.ErrState,
		"ball 0 0 0 radius 1 r ;":                api.ErrName,
		"ball 1001":                              api.ErrLimit,
		"eye 0 0 0 to 0 0 0 up 0 1 0 wide 1 ;":   api.ErrZero,
		"eye 0 0 0 to 0 0 1 up 0 1 0 wide 0 ;":   api.ErrValue,
		strings.Repeat("repeat 1 by 0 0 0 {", 4): api.ErrDeep,
		"eye 0 0 0 to 0 0 1 up 0 1 0 wide 1 ;\nsky 0 0 0 ": api.ErrShort,
	} {
		if _, no := scene.Parse(text); no != e {
			t.Fatalf("%q: %d: the test tells little", text, no)
		}
		ask(t, fault(e)+"\nerror 13\n", "scene", text, "end", "show")
		ask(t, "ok\n"+fault(e)+"\nnone\n", bare, "scene", text, "end", "hit 0 0 0 0 0 1")
	}
}

// A scene that is refused changes nothing: neither the scene nor the film. One that is taken is there alone, and the film is gone.
func TestSceneBehindAScene(t *testing.T) {
	film, both := "shoot 2 1 3 0", "ok\nok\n6000 12000 18000 6\n"
	ask(t, both, bare, film, "sum")
	ask(t, both+"error 5\n6000 12000 18000 6\n1000 2000 3000\n", bare, film, "sum", refused, "sum", "trace 0 0 0 0 0 1 0")
	ask(t, both+"ok\nerror 13\n10 20 30\nok\n20 40 60 2\n", bare, film, "sum", other, "sum", "trace 0 0 0 0 0 1 0", "shoot 1 2 1 0", "sum")
	// The same scene once more: the film is gone, even so.
	ask(t, both+"ok\nerror 13\n", bare, film, "sum", bare, "sum")
	ask(t, "error 5\nerror 13\nok\nok\n1000 2000 3000 1\n", refused, "show", bare, "shoot 1 1 1 0", "sum")
	// More shots of a film behind a scene that was refused: still those of the scene ahead.
	ask(t, both+"error 5\nok\n8000 16000 24000 8\n", bare, film, "sum", refused, "more 1 0", "sum")
}

// Nothing of a session is in the next one, or in one at the same time.
func TestSessionsAreApart(t *testing.T) {
	text := example + "shoot 4 3 2 3\nsum\nmore 1 3\nsum\nshow\npack 1000\n"
	want := session(t, text)
	ask(t, "error 13\nerror 13\n", "show", "sum")
	var busy sync.WaitGroup
	for range 6 {
		busy.Go(func() {
			for range 5 {
				if got := rayhouse.Session(text); got != want {
					t.Errorf("%q, not %q", got, want)
				}
				if got := rayhouse.Session("sum\n"); got != "error 13\n" {
					t.Errorf("sum: %q", got)
				}
			}
		})
	}
	busy.Wait()
}
