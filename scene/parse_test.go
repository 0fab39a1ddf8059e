package scene_test

import (
	"fmt"
	"strings"
	"testing"

	"rayhouse/api"
	"rayhouse/scene"
)

const (
	eyeText  = "eye 0 1 -5 to 0 0 0 up 0 1 0 wide 1.5 ;"
	skinText = "skin a spread 500 500 500 mirror 0 0 0 glass 0 0 0 bend 1 ;"
	ground   = eyeText + "\n" + skinText + "\n"
)

// parsed: the scene of a text that has no fault.
func parsed(t *testing.T, text string) api.Scene {
	t.Helper()
	s, e := scene.Parse(text)
	if e != api.OK {
		t.Fatalf("%q: %d", text, e)
	}
	if e := scene.May(s); e != api.OK {
		t.Errorf("%q: May says %d", text, e)
	}
	return s
}

// holdParse: the scene of a text.
func holdParse(t *testing.T, text string, want api.Scene) {
	t.Helper()
	if got := parsed(t, text); told(got) != told(want) {
		t.Errorf("%q:\n%s\nis not\n%s", text, told(got), told(want))
	}
}

// holdGround: what a text tells behind ground.
func holdGround(t *testing.T, text string, want api.Scene) {
	t.Helper()
	want.Eye = eye()
	want.Skins = []api.Skin{skinOf(500, 0, 0, 1000)}
	holdParse(t, ground+text, want)
}

func holdError(t *testing.T, text string, want api.Errno) {
	t.Helper()
	if s, e := scene.Parse(text); e != want || !empty(s) {
		t.Errorf("%q: %d, not %d: %s", text, e, want, told(s))
	}
}

// stops: the last token of a text has a fault, whatever is behind it; without that token there is no such fault.
func stops(t *testing.T, text string, want api.Errno) {
	t.Helper()
	for _, behind := range []string{"", " ", " #", " ;", " }", " 7777777777 ; eye", "\n" + ground} {
		holdError(t, text+behind, want)
	}
	words := strings.Split(text, " ")
	without := strings.Join(words[:len(words)-1], " ")
	if _, e := scene.Parse(without); e != api.OK && e != api.ErrShort && e != api.ErrCount {
		t.Errorf("%q: %d, ahead of the token that was to have a fault", without, e)
	}
}

// N3

func TestParseEachKind(t *testing.T) {
	want := api.Scene{
		Skins: []api.Skin{
			{Spread: [3]int{1, 2, 3}, Mirror: [3]int{4, 5, 6}, Glass: [3]int{7, 8, 9}, Bend: 1333},
			skinOf(0, 0, 0, 100),
		},
		Sky: [3]int{1, 2, 65536},
		Eye: api.Eye{At: v(1.5, -2.25, -7.125), To: v(0.001, -0.999, 3), Up: v(-1, 2, -3), Wide: 0.5},
		Lamps: []api.Lamp{
			{At: v(1, 2, 3), Light: [3]int{4, 5, 6}},
			{At: v(-1000, 1000, 0), Light: [3]int{0, 65536, 1}},
		},
		Shapes: []api.Shape{
			{Kind: api.Ball, A: v(1, 2, 3), R: 4, Skin: 1},
			{Kind: api.Block, A: v(1, 2, 3), B: v(4, 5, 6), Skin: 0},
			{Kind: api.Tri, A: v(1, 2, 3), B: v(4, 5, 6), C: v(7, 8, 9), Skin: 1},
			{Kind: api.Plate, A: v(1, 2, 3), B: v(4, 5, 6), R: 7, Skin: 0},
			{Kind: api.Tube, A: v(1, 2, 3), B: v(0, -5, 0), R: 6, Skin: 1},
			{Kind: api.Ring, A: v(1, 2, 3), B: v(0, 0, 4), R: 6, Q: 5, Skin: 0},
		},
		Solids: []api.Solid{
			{Parts: []api.Part{leaf(api.Shape{Kind: api.Ball, A: v(1, 2, 3), R: 4})}, Skin: 1},
			{Parts: []api.Part{leaf(api.Shape{Kind: api.Block, A: v(1, 2, 3), B: v(4, 5, 6)}), leaf(api.Shape{Kind: api.Tube, A: v(1, 2, 3), B: v(4, 0, 0), R: 5}), made(api.Less, 0, 1)}},
		},
		Fields: []api.Field{
			{W: 2, H: 3, At: v(1, 2, 3), Side: 4.5, High: []int{1000, -2000, 500, 0, 1000000, -1000000}, Skin: 1},
		},
	}
	skins := "skin ä spread 1 2 3 mirror 4 5 6 glass 7 8 9 bend 1.333 ; skin ball spread 0 0 0 mirror 0 0 0 glass 0 0 0 bend 0.1 ;"
	others := []string{
		"eye 1.5 -2.25 -7.125 to 0.001 -0.999 3.000 up -1 2 -3 wide 0.5 ;",
		"sky 1 2 65536 ;",
		"lamp 1 2 3 light 4 5 6 ; lamp -1000 1000 -0 light 0 65536 1 ;",
		"ball 1 2 3 radius 4 ball ; block 1 2 3 to 4 5 6 ä ; tri 1 2 3 , 4 5 6 , 7 8 9 ball ; plate 1 2 3 up 4 5 6 radius 7 ä ; tube 1 2 3 along 0 -5 0 radius 6 ball ; ring 1 2 3 up 0 0 4 radius 6 5 ä ;",
		"solid ball 1 2 3 radius 4 ball ; solid less { block 1 2 3 to 4 5 6 tube 1 2 3 along 4 0 0 radius 5 } ä ;",
		"field 2 3 at 1 2 3 side 4.5 high 1 -2 0.5 0 1000 -1000 ball ;",
	}
	for i := range others {
		for _, step := range []int{1, 5} {
			text := skins
			if i == 3 { // What wears no skin may be told ahead of them.
				text = others[0] + others[2] + skins
			}
			for k := range others {
				if n := (i + k*step) % len(others); i != 3 || n != 0 && n != 2 {
					text += "\n" + others[n]
				}
			}
			holdParse(t, text, want)
		}
	}
}

func TestParseWithoutMuch(t *testing.T) {
	holdParse(t, eyeText, api.Scene{Eye: eye()})
	holdParse(t, " \t\n\n "+eyeText+"\n\t ", api.Scene{Eye: eye()})
	holdGround(t, "", api.Scene{})
}

// The session of the document has this scene.
func TestParseTheDocumentsScene(t *testing.T) {
	text := "eye 0 1 -5 to 0 0 0 up 0 1 0 wide 1.2 ;\nsky 20000 30000 65536 ;\nskin r spread 700 100 100 mirror 100 100 100 glass 0 0 0 bend 1 ;\nskin glas1 spread 0 0 0 mirror 100 100 100 glass 800 800 800 bend 1.5 ;\nlamp 3 5 -4 light 60000 60000 60000 ;\nplate 0 -1 0 up 0 1 0 radius 6 r ;\nball 0 0 0 radius 1 glas1 ;\nrepeat 2 by 2 0 0 { block 1 -1 1 to 2 0 2 r ; }\n"
	red := skinOf(100, 100, 0, 1000)
	red.Spread[0] = 700
	holdParse(t, text, api.Scene{
		Eye: api.Eye{At: v(0, 1, -5), Up: v(0, 1, 0), Wide: 1.2}, Sky: [3]int{20000, 30000, 65536},
		Skins: []api.Skin{red, skinOf(0, 100, 800, 1500)},
		Lamps: []api.Lamp{{At: v(3, 5, -4), Light: [3]int{60000, 60000, 60000}}},
		Shapes: []api.Shape{
			{Kind: api.Plate, A: v(0, -1, 0), B: v(0, 1, 0), R: 6}, {Kind: api.Ball, R: 1, Skin: 1},
			{Kind: api.Block, A: v(1, -1, 1), B: v(2, 0, 2)}, {Kind: api.Block, A: v(3, -1, 1), B: v(4, 0, 2)},
		},
	})
}

// Signs stand by themselves: no blank is asked for about them, nor just one between words.
func TestParseBlanks(t *testing.T) {
	want := api.Scene{
		Solids: []api.Solid{{Parts: []api.Part{leaf(ball()), leaf(block()), made(api.Both, 0, 1)}}},
		Shapes: []api.Shape{{Kind: api.Tri, B: v(1, 0, 0), C: v(0, 1, 0)}},
		Lamps:  []api.Lamp{{}},
	}
	text := "solid both { ball 1 2 3 radius 0.5 block -1 -2 -3 to 1 0.25 3 } a ; tri 0 0 0 , 1 0 0 , 0 1 0 a ; repeat 1 by 0 0 0 { lamp 0 0 0 light 0 0 0 ; }"
	holdGround(t, text, want)
	for _, sign := range []string{";", ",", "{", "}"} {
		text = strings.ReplaceAll(text, " "+sign, sign)
		text = strings.ReplaceAll(text, sign+" ", sign)
	}
	holdGround(t, text, want)
	for _, gap := range []string{"\n", "\t", "  ", " \n\t\n "} {
		holdGround(t, strings.ReplaceAll(text, " ", gap), want)
	}
}

func TestNumbers(t *testing.T) {
	for text, want := range map[string]float64{
		"0": 0, "-0": 0, "0.0": 0, "-0.000": 0, "0.00": 0, "1": 1, "-1": -1, "10": 10, "1.5": 1.5, "1.50": 1.5, "1.500": 1.5, "-1.5": -1.5,
		"0.1": 0.1, "0.01": 0.01, "0.001": 0.001, "-0.001": -0.001, "0.010": 0.01, "0.999": 0.999, "100.09": 100.09, "333.333": 333.333,
		"999.999": 999.999, "1000": 1000, "-1000": -1000, "1000.0": 1000, "-1000.000": -1000,
	} {
		for at, place := range []string{"%s 0 0", "0 %s 0", "0 0 %s"} {
			want := [3]api.Vec{v(want, 0, 0), v(0, want, 0), v(0, 0, want)}[at]
			holdGround(t, "lamp "+fmt.Sprintf(place, text)+" light 0 0 0 ;", api.Scene{Lamps: []api.Lamp{{At: want}}})
		}
	}
	for _, text := range []string{
		"1000.001", "-1000.001", "1000.1", "-1000.999", "1001", "-1001", "12345", "100000000", "999999999", "-999999999", "999999999.999",
	} {
		for _, place := range []string{"lamp", "lamp 0", "lamp 0 0", "ball 0 0 0 radius", "tube 0 0 0 along 0", "ring 0 0 0 up 0 0 1 radius 1", "field 2 2 at 0 0 0 side 1 high", "field 2 2 at 0 0 0 side", "repeat", "repeat 2 by 0", "field", "field 2", "skin b spread 0 0 0 mirror 0 0 0 glass 0 0 0 bend"} {
			stops(t, ground+place+" "+text, api.ErrLimit)
		}
		stops(t, "eye "+text, api.ErrLimit)
		stops(t, "eye 0 0 0 to 0 0 0 up 0 0 0 wide "+text, api.ErrLimit)
	}
	for _, text := range []string{
		"1234567890", "1000000000", "0000000001", "-1234567890", "1234567890.5", "00", "01", "-01", "00.5", "-00", "007", "010.5",
		"1.", "-1.", ".5", "-.5", ".", "-", "-.", "..", "--", "--1", "-1-", "1-", "1-1", "1.2345", "0.0000", "1.5.", "1..5", "1.5.5", "1.-5", "1a", "a1", "a", "1e3", "ß", "٣", "+",
		";", ",", "{", "}", "to", "#", "\r", "\xff", "\xf0\x9f", "ſ", "é", "A", "ÿ",
	} {
		for _, place := range []string{"lamp", "lamp 0 0", "ball 0 0 0 radius", "repeat", "field 2"} {
			stops(t, ground+place+" "+text, api.ErrWord)
		}
	}
}

func TestWholes(t *testing.T) {
	for text, want := range map[string]int{"0": 0, "1": 1, "10": 10, "1000": 1000, "1001": 1001, "65535": 65535, "65536": 65536} {
		for i := range 3 {
			three := []string{"0", "0", "0"}
			three[i] = text
			var light [3]int
			light[i] = want
			holdGround(t, "sky "+strings.Join(three, " ")+" ;", api.Scene{Sky: light})
			holdGround(t, "lamp 0 0 0 light "+strings.Join(three, " ")+" ;", api.Scene{Lamps: []api.Lamp{{Light: light}}})
		}
	}
	for _, text := range []string{"65537", "65536000", "999999999", "-1", "-65536", "-999999999"} {
		for _, place := range []string{"sky", "sky 0", "sky 0 0", "lamp 0 0 0 light", "lamp 0 0 0 light 0", "lamp 0 0 0 light 0 0"} {
			stops(t, ground+place+" "+text, api.ErrValue)
		}
	}
	parsed(t, ground+"skin b spread 1000 0 0 mirror 0 1000 0 glass 0 0 1000 bend 1 ;")
	for _, text := range []string{"1001", "1002", "65536", "65537", "999999999", "-1", "-1000"} {
		for _, place := range []string{"spread", "spread 0", "spread 0 0", "spread 0 0 0 mirror 0", "spread 0 0 0 mirror 0 0 0 glass", "spread 0 0 0 mirror 0 0 0 glass 0 0"} {
			stops(t, ground+"skin b "+place+" "+text, api.ErrValue)
		}
	}
	for _, text := range []string{"-0", "00", "01", "-01", "0.0", "1.0", "1.5", "1000000000", "-1234567890", "--1", "-", ".", "1-", "a", "1a", ";", "é", "\x80", "light"} {
		stops(t, ground+"sky "+text, api.ErrWord)
		stops(t, ground+"lamp 0 0 0 light 0 "+text, api.ErrWord)
		stops(t, ground+"skin b spread "+text, api.ErrWord)
		stops(t, ground+"skin b spread 0 0 0 mirror 0 0 0 glass 0 0 "+text, api.ErrWord)
	}
}

func TestNames(t *testing.T) {
	const rest = " spread 0 0 0 mirror 0 0 0 glass 0 0 0 bend 1 ;"
	for _, name := range []string{
		"a1", "z", "z9", "ß", "à", "ö", "ø", "ÿ", "α", "ς", "σ", "ω", "ßÿαω1", "x0123456789a", "ωωωωωωωωωωωω", "äöüßàéêñçøÿ9", "abcdefghijkl",
		"eye", "sky", "skin", "lamp", "spread", "repeat", "solid", "ball", "to", "s0", "s1",
	} {
		text := eyeText + "skin " + name + rest + "ball 0 0 0 radius 1 " + name + " ; solid ball 0 0 0 radius 1 " + name + " ; field 2 2 at 0 0 0 side 1 high 0 0 0 0 " + name + ";"
		holdParse(t, text, api.Scene{
			Eye: eye(), Skins: []api.Skin{skinOf(0, 0, 0, 1000)},
			Shapes: []api.Shape{{Kind: api.Ball, R: 1}}, Solids: []api.Solid{{Parts: []api.Part{leaf(api.Shape{Kind: api.Ball, R: 1})}}},
			Fields: []api.Field{{W: 2, H: 2, Side: 1, High: []int{0, 0, 0, 0}}},
		})
		stops(t, ground+"ball 0 0 0 radius 1 "+name, api.ErrName)
		stops(t, ground+"solid ball 0 0 0 radius 1 "+name, api.ErrName)
		stops(t, ground+"field 2 2 at 0 0 0 side 1 high 0 0 0 0 "+name, api.ErrName)
		stops(t, ground+"repeat 0 by 0 0 0 { tri 0 0 0 , 0 0 0 , 0 0 0 "+name, api.ErrName)
	}
	for _, name := range []string{
		"1", "1a", "9ω", "a.", "a-b", "-a", ".a", "a.b", "-", ".", "abcdefghijklm", "ωωωωωωωωωωωωω", "a123456789012", "ßßßßßßßßßßßßß",
		"A", "Z", "÷", "×", "Þ", "Ω", "Α", "ΰ", "ϊ", "ā", "_", "`", "{", "}", ";", ",", "/", ":", "@", "[", "\r", "\x00", "\u00a0", "\u2028", "\xe4", "\xff", "\ufffd", "文", "🙂", "0",
	} {
		stops(t, ground+"skin "+name, api.ErrWord)
		stops(t, ground+"ball 0 0 0 radius 1 "+name, api.ErrWord)
		stops(t, ground+"solid ball 0 0 0 radius 1 "+name, api.ErrWord)
		stops(t, ground+"field 0 8 at 0 0 0 side 1 high "+name, api.ErrWord)
	}
	// A rune that is none of a word ends it, and stands behind it.
	for _, behind := range []string{"÷", "A", "\r", "_", "\xc3", "Ω", "\u00a0"} {
		holdError(t, ground+"ball 0 0 0 radius 1 a"+behind+" ;", api.ErrWord)
		holdError(t, ground+"ball 0 0 0 radius 1 b"+behind+" ;", api.ErrName)
		holdError(t, ground+"ball 0 0 0 radius 1"+behind+" a ;", api.ErrWord)
	}
}

// Which skin a name is that of, however many there are.
func TestNamesOfSeveralSkins(t *testing.T) {
	text := eyeText
	for i := range api.MaxSkins {
		text += fmt.Sprintf("skin a%d spread %d 0 0 mirror 0 0 0 glass 0 0 0 bend 1 ;", i, i)
	}
	for i := range api.MaxSkins {
		text += fmt.Sprintf("ball 0 0 0 radius 1 a%d ;", api.MaxSkins-1-i)
	}
	s := parsed(t, text)
	for i := range api.MaxSkins {
		if s.Skins[i].Spread[0] != i || s.Shapes[i].Skin != api.MaxSkins-1-i {
			t.Errorf("%d: %v, %v", i, s.Skins[i], s.Shapes[i])
		}
	}
}

func TestRunesThatStandNowhere(t *testing.T) {
	for _, c := range []string{"#", "\r", "\v", "\f", "\x00", "A", "÷", "×", "\u0085", "\u00a0", "\u2003", "\ufeff", "文", "\xff", "\xc3", "\xe4\xb8", "\ufffd", "(", "'", "\"", "=", "+", "_", "/", "\\"} {
		stops(t, c, api.ErrWord)
		stops(t, ground+c, api.ErrWord)
		stops(t, ground+"ball "+c, api.ErrWord)
		stops(t, ground+"ball 0 0 0 radius 1 a "+c, api.ErrWord)
		stops(t, ground+"repeat 2 by 0 0 0 { "+c, api.ErrWord)
		stops(t, ground+"solid both "+c, api.ErrWord)
		stops(t, ground+"solid both { ball 0 0 0 radius 1 "+c, api.ErrWord)
		holdError(t, c+ground, api.ErrWord)
		holdError(t, ground+c+c, api.ErrWord)
	}
	holdError(t, strings.ReplaceAll(ground, "\n", "\r\n"), api.ErrWord)
}

func TestParts(t *testing.T) {
	b, k, u := leaf(ball()), leaf(block()), leaf(tube())
	const bt, kt, ut = "ball 1 2 3 radius 0.5", "block -1 -2 -3 to 1 0.25 3", "tube 0 0 -2 along 0 0 4.125 radius 0.25"
	for text, want := range map[string][]api.Part{
		bt: {b}, kt: {k}, ut: {u},
		"both { " + bt + " " + kt + " }":                                      {b, k, made(api.Both, 0, 1)},
		"either { " + kt + " " + bt + " }":                                    {k, b, made(api.Either, 0, 1)},
		"less { " + ut + " " + ut + " }":                                      {u, u, made(api.Less, 0, 1)},
		"less { both { " + bt + kt2 + " } " + ut + " }":                       {b, k, made(api.Both, 0, 1), u, made(api.Less, 2, 3)},
		"less { " + ut + " both { " + bt + kt2 + " } }":                       {u, b, k, made(api.Both, 1, 2), made(api.Less, 0, 3)},
		"both { less { either { " + bt + kt2 + " } " + ut + " } " + bt + " }": {b, k, made(api.Either, 0, 1), u, made(api.Less, 2, 3), b, made(api.Both, 4, 5)},
		"both { " + ut + " less { " + bt + " either { " + bt + kt2 + " } } }": {u, b, b, k, made(api.Either, 2, 3), made(api.Less, 1, 4), made(api.Both, 0, 5)},
	} {
		holdGround(t, "solid "+text+" a ;", api.Scene{Solids: []api.Solid{{Parts: want}}})
	}
	pair := "both { " + bt + " " + bt + " }"
	two := "less { " + pair + " " + pair + " }"
	s := parsed(t, ground+"solid either { "+two+" "+two+" } a ;")
	if n := len(s.Solids[0].Parts); n != 15 {
		t.Errorf("%d parts of 8 leaves", n)
	}
	for _, word := range []string{"plate", "tri", "ring", "solid", "field", "lamp", "repeat", "eye", "sky", "skin", "a", "{", "}", ";", "1", "boths", "leaf"} {
		stops(t, ground+"solid "+word, api.ErrWord)
		stops(t, ground+"solid less { "+word, api.ErrWord)
		stops(t, ground+"solid less { "+bt+" "+word, api.ErrWord)
		stops(t, ground+"repeat 1 by 0 0 0 { solid less { both { "+bt+" "+word, api.ErrWord)
	}
	stops(t, ground+"solid less { "+bt+" "+bt+" ;", api.ErrWord)
	stops(t, ground+"solid less { "+bt+" "+bt+" ball", api.ErrWord)
	stops(t, ground+"solid less { "+bt+" "+bt+" } }", api.ErrWord)
	stops(t, ground+"solid less ball", api.ErrWord)
	stops(t, ground+"solid ball 1 2 3 radius 1 ;", api.ErrWord)
}

const kt2 = " block -1 -2 -3 to 1 0.25 3"

func TestFields(t *testing.T) {
	for _, c := range []struct{ w, h int }{{2, 2}, {2, 8}, {8, 2}, {3, 5}, {8, 8}} {
		f := api.Field{W: c.w, H: c.h, At: v(1, -2, 3), Side: 0.125}
		text := fmt.Sprintf("field %d %d.0 at 1 -2 3 side 0.125 high", c.w, c.h)
		for i := range c.w * c.h {
			f.High = append(f.High, i*100-700)
			text += fmt.Sprintf(" %.1f", float64(i)/10-0.7)
		}
		text = strings.ReplaceAll(text, " -0.0", " -0.000")
		holdGround(t, text+" a ;", api.Scene{Fields: []api.Field{f}})
		holdError(t, ground+text+" 1 a ;", api.ErrWord)
		holdError(t, ground+text[:strings.LastIndex(text, " ")]+" a ;", api.ErrWord)
	}
	for _, n := range []string{"9", "-1", "9.000", "1000", "-1000", "17"} {
		stops(t, ground+"field "+n, api.ErrValue)
		stops(t, ground+"field 2 "+n, api.ErrValue)
	}
	for _, n := range []string{"2.5", "0.001", "-1.5", "9.5", "7.999", "999.999"} {
		stops(t, ground+"field "+n, api.ErrWord)
		stops(t, ground+"field 2 "+n, api.ErrWord)
	}
	for _, n := range []string{"1000.5", "-1000.001"} {
		stops(t, ground+"field "+n, api.ErrLimit)
		stops(t, ground+"field 2 "+n, api.ErrLimit)
	}
	// Too small a grid is told at the end, with as many heights as it has.
	for text, heights := range map[string]string{"0 0": "", "0 8": "", "8 0": "", "-0 5": "", "1 1": " 1", "1 3": " 1 2 3", "3 1": " 1 2 3"} {
		stops(t, ground+"field "+text+" at 0 0 0 side 1 high"+heights+" a ;", api.ErrLimit)
		stops(t, ground+"field "+text+" at 0 0 0 side 1 high"+heights+" 1", api.ErrWord)
	}
	stops(t, ground+"field 2 2 at 0 0 0 side 0 high 0 0 0 0 a ;", api.ErrValue)
	stops(t, ground+"field 2 2 at 0 0 0 side -1 high 0 0 0 0 a ;", api.ErrValue)
}

// Repeats

func balls(places ...api.Vec) (s api.Scene) {
	for _, p := range places {
		s.Shapes = append(s.Shapes, api.Shape{Kind: api.Ball, A: p, R: 1})
	}
	return s
}

func TestRepeat(t *testing.T) {
	const one = "ball 1 2 3 radius 1 a ;"
	holdGround(t, "repeat 0 by 1 2 3 { "+one+" }", balls())
	holdGround(t, "repeat -0 by 1 2 3 { "+one+" }", balls())
	holdGround(t, "repeat 1 by 1 2 3 { "+one+" }", balls(v(1, 2, 3)))
	holdGround(t, "repeat 3 by 1 -2 0.125 { "+one+" }", balls(v(1, 2, 3), v(2, 0, 3.125), v(3, -2, 3.25)))
	holdGround(t, "repeat 2.0 by 0 0 0 { "+one+" }", balls(v(1, 2, 3), v(1, 2, 3)))
	holdGround(t, "repeat 5 by 1 2 3 { }", balls())
	holdGround(t, "repeat 2 by 1 0 0 { } "+one, balls(v(1, 2, 3)))
	holdGround(t, "repeat 2 by 1 0 0 { "+one+" ball 0 0 0 radius 1 a ; } "+one, balls(v(1, 2, 3), v(0, 0, 0), v(2, 2, 3), v(1, 0, 0), v(1, 2, 3)))
	// Tenths that no float is: each place is counted in thousandths, and is the float of its own.
	holdGround(t, "repeat 4 by 0.1 0.1 0.1 { ball 0 0 0 radius 1 a ; }", balls(v(0, 0, 0), v(0.1, 0.1, 0.1), v(0.2, 0.2, 0.2), v(0.3, 0.3, 0.3)))
	s := parsed(t, ground+"repeat 16 by -1 10 0.001 { "+one+" }")
	for i := range 16 {
		if want := v(1-float64(i), 2+10*float64(i), float64(3000+i)/1000); s.Shapes[i].A != want {
			t.Errorf("%d: %v, not %v", i, s.Shapes[i].A, want)
		}
	}
	if len(s.Shapes) != 16 {
		t.Errorf("%d balls", len(s.Shapes))
	}
}

func TestRepeatWithinRepeat(t *testing.T) {
	const one = "ball 1 2 3 radius 1 a ;"
	holdGround(t, "repeat 2 by 10 0 0 { repeat 3 by 0 1 0 { "+one+" } "+one+" }", balls(
		v(1, 2, 3), v(1, 3, 3), v(1, 4, 3), v(1, 2, 3), v(11, 2, 3), v(11, 3, 3), v(11, 4, 3), v(11, 2, 3)))
	holdGround(t, "repeat 2 by 10 0 0 { repeat 2 by -1 0 0 { repeat 2 by 0 0 100 { "+one+" } } }", balls(
		v(1, 2, 3), v(1, 2, 103), v(0, 2, 3), v(0, 2, 103), v(11, 2, 3), v(11, 2, 103), v(10, 2, 3), v(10, 2, 103)))
	holdGround(t, "repeat 2 by 10 0 0 { repeat 0 by 0 1 0 { "+one+" } "+one+" }", balls(v(1, 2, 3), v(11, 2, 3)))
	holdGround(t, "repeat 0 by 10 0 0 { repeat 2 by 0 1 0 { "+one+" } "+one+" } "+one, balls(v(1, 2, 3)))
	holdGround(t, "repeat 2 by 1 0 0 { repeat 1 by 5 5 5 { "+one+" } } repeat 2 by 0 1 0 { "+one+" }", balls(v(1, 2, 3), v(2, 2, 3), v(1, 2, 3), v(1, 3, 3)))
}

// What is shifted: points; what is behind up and along isn't, nor is a number by itself.
func TestRepeatOfEachKind(t *testing.T) {
	want := api.Scene{}
	for i := range 2 {
		p := func(x, y, z float64) api.Vec { return v(x+10*float64(i), y-20*float64(i), z+0.5*float64(i)) }
		want.Lamps = append(want.Lamps, api.Lamp{At: p(1, 2, 3), Light: [3]int{4, 5, 6}})
		want.Shapes = append(want.Shapes,
			api.Shape{Kind: api.Ball, A: p(1, 2, 3), R: 4}, api.Shape{Kind: api.Block, A: p(1, 2, 3), B: p(4, 5, 6)},
			api.Shape{Kind: api.Tri, A: p(1, 2, 3), B: p(4, 5, 6), C: p(7, 8, 9)}, api.Shape{Kind: api.Plate, A: p(1, 2, 3), B: v(4, 5, 6), R: 7},
			api.Shape{Kind: api.Tube, A: p(1, 2, 3), B: v(0, -5, 0), R: 6}, api.Shape{Kind: api.Ring, A: p(1, 2, 3), B: v(0, 0, 4), R: 6, Q: 5})
		want.Solids = append(want.Solids, api.Solid{Parts: []api.Part{
			leaf(api.Shape{Kind: api.Ball, A: p(1, 2, 3), R: 4}), leaf(api.Shape{Kind: api.Block, A: p(1, 2, 3), B: p(4, 5, 6)}), made(api.Both, 0, 1),
			leaf(api.Shape{Kind: api.Tube, A: p(1, 2, 3), B: v(4, 0, 0), R: 5}), made(api.Less, 2, 3)}})
		want.Fields = append(want.Fields, api.Field{W: 2, H: 2, At: p(1, 2, 3), Side: 4, High: []int{5000, 6000, 7000, 8000}})
	}
	holdGround(t, `repeat 2 by 10 -20 0.5 {
		lamp 1 2 3 light 4 5 6 ; ball 1 2 3 radius 4 a ; block 1 2 3 to 4 5 6 a ; tri 1 2 3 , 4 5 6 , 7 8 9 a ; plate 1 2 3 up 4 5 6 radius 7 a ;
		tube 1 2 3 along 0 -5 0 radius 6 a ; ring 1 2 3 up 0 0 4 radius 6 5 a ;
		solid less { both { ball 1 2 3 radius 4 block 1 2 3 to 4 5 6 } tube 1 2 3 along 4 0 0 radius 5 } a ;
		field 2 2 at 1 2 3 side 4 high 5 6 7 8 a ; }`, want)
}
