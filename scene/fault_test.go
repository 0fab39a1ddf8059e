package scene_test

import (
	"fmt"
	"strings"
	"testing"

	"rayhouse/api"
	"rayhouse/scene"
)

// N4

const oneBall = "ball 0 0 0 radius 1 a ; "

func TestHowLongATextIs(t *testing.T) {
	const most = 20000
	pad := func(text string, n int) string { return text + strings.Repeat(" ", n-len(text)) }
	holdParse(t, pad(eyeText, most), api.Scene{Eye: eye()})
	holdError(t, pad(eyeText, most+1), api.ErrLimit)
	holdError(t, pad("", most), api.ErrCount)
	holdError(t, pad("", most+1), api.ErrLimit)
	holdError(t, pad("#", most+1), api.ErrLimit)
	holdError(t, pad("#", most), api.ErrWord)
	holdError(t, pad(eyeText+"ball", most), api.ErrShort)
	holdError(t, strings.Repeat("\xff", most+1), api.ErrLimit)
	holdError(t, strings.Repeat("#", 10*most), api.ErrLimit)
	// Bytes are counted, not runes.
	word := strings.Repeat("ω", most/2)
	holdError(t, word, api.ErrWord)
	holdError(t, word+"a", api.ErrLimit)
}

func TestTheEnd(t *testing.T) {
	for _, text := range []string{"", " ", "\n\t ", skinText, "sky 1 2 3 ;", skinText + oneBall, "repeat 3 by 1 1 1 { }"} {
		holdError(t, text, api.ErrCount)
		parsed(t, text+eyeText)
	}
	stops(t, "}", api.ErrWord)
	stops(t, ground+"}", api.ErrWord)
	stops(t, skinText+" }", api.ErrWord)
	stops(t, ground+"repeat 2 by 0 0 0 { "+oneBall+"} }", api.ErrWord)
	stops(t, ground+oneBall+"}", api.ErrWord)
	for _, open := range []string{"repeat 0 by 0 0 0 {", "repeat 1 by 0 0 0 {", "repeat 2 by 0 0 0 { repeat 2 by 0 0 0 { }", "repeat 2 by 0 0 0 { " + oneBall} {
		holdError(t, open[:strings.Index(open, "{")+1], api.ErrShort)
		holdError(t, ground+open, api.ErrShort)
	}
}

// lines: a text of each kind, whole.
func lines() []string {
	return []string{
		"sky 1 2 3 ;", "skin b spread 0 0 0 mirror 0 0 0 glass 0 0 0 bend 1 ;", "lamp 0 0 0 light 1 1 1 ;",
		"ball 0 0 0 radius 1 a ;", "block 0 0 0 to 1 1 1 a ;", "tri 0 0 0 , 1 0 0 , 0 1 0 a ;", "plate 0 0 0 up 0 1 0 radius 1 a ;",
		"tube 0 0 0 along 0 1 0 radius 1 a ;", "ring 0 0 0 up 0 1 0 radius 2 1 a ;", "field 2 2 at 0 0 0 side 1 high 0 0 0 0 a ;",
		"solid less { both { ball 0 0 0 radius 1 block 0 0 0 to 1 1 1 } tube 0 0 0 along 0 0 1 radius 1 } a ;",
		"repeat 2 by 0 0 0 { ball 0 0 0 radius 1 a ; }", "repeat 0 by 0 0 0 { lamp 0 0 0 light 1 1 1 ; }",
	}
}

// Wherever a text ends within a thing it is too short; and no other token may stand for one of its words and signs.
func TestEachTokenIsAskedFor(t *testing.T) {
	all := append(lines(), eyeText)
	for i, line := range all {
		ahead := ground
		if i == len(all)-1 {
			ahead = skinText
		}
		parsed(t, ahead+line)
		words := strings.Fields(line)
		for n := 1; n < len(words); n++ {
			begun := ahead + strings.Join(words[:n], " ")
			inside := strings.Count(begun, "{") > strings.Count(begun, "}") && !strings.Contains(line, "solid") && strings.HasSuffix(begun, ";")
			if !inside {
				stops(t, begun+" %", api.ErrWord)
			}
			holdError(t, begun, api.ErrShort)
			if inside || words[n] == "a" || words[n] == "b" {
				continue
			}
			for _, other := range []string{";", ",", "{", "}", "1.2.3", "toto"} {
				if other != words[n] {
					holdError(t, begun+" "+other+" "+strings.Join(words[n:], " "), api.ErrWord)
				}
			}
		}
	}
	for _, word := range []string{"a", "1", ";", ",", "{", "ey", "eyes", "balls", "to", "both", "less", "either", "ball1", "-", ".", "radius", "Eye", "ω"} {
		stops(t, ground+word, api.ErrWord)
		stops(t, ground+"repeat 3 by 0 0 0 { "+word, api.ErrWord)
	}
}

func TestTimes(t *testing.T) {
	for _, n := range []string{"17", "-1", "1000", "-1000", "100.0", "17.000"} {
		stops(t, ground+"repeat "+n, api.ErrValue)
	}
	for _, n := range []string{"1.5", "0.5", "-0.001", "16.001", "17.5", "-1.25", "999.999"} {
		stops(t, ground+"repeat "+n, api.ErrWord)
	}
	for _, n := range []string{"1000.5", "1001", "-1000.001"} {
		stops(t, ground+"repeat "+n, api.ErrLimit)
	}
	for _, n := range []string{"0", "-0", "0.000", "1", "16", "16.0"} {
		parsed(t, ground+"repeat "+n+" by 1000 -1000 0.001 { }")
	}
	stops(t, ground+"repeat 2 by 1 2 3 ;", api.ErrWord)
	stops(t, ground+"repeat 2 by 1 2 {", api.ErrWord)
}

func TestDeep(t *testing.T) {
	open := "repeat 1 by 0 0 0 { "
	parsed(t, ground+strings.Repeat(open, 3)+oneBall+strings.Repeat("} ", 3)+open+"}")
	stops(t, ground+strings.Repeat(open, 4)[:4*len(open)-1], api.ErrDeep)
	stops(t, ground+strings.Repeat(strings.Replace(open, "1", "0", 1), 4)[:4*len(open)-1], api.ErrDeep)
	stops(t, ground+strings.Repeat(open, 3)+"repeat 1 by 0 0 0 ;", api.ErrWord)
	stops(t, ground+strings.Repeat(open, 3)+"repeat 17", api.ErrValue)
	parsed(t, ground+strings.Repeat(strings.Repeat(open, 3)+strings.Repeat("} ", 3), 2))
	const leaf = "ball 0 0 0 radius 1 "
	part := func(depth int) string {
		return strings.Repeat("less { "+leaf, depth) + leaf + strings.Repeat("} ", depth)
	}
	left := func(depth int) string {
		return strings.Repeat("less { ", depth) + leaf + strings.Repeat(leaf+"} ", depth)
	}
	for _, p := range []string{part(1), part(2), part(3), left(3)} {
		parsed(t, ground+"solid "+p+"a ; solid "+p+"a ;")
		// Those of repeats and those of parts count by themselves.
		parsed(t, ground+strings.Repeat(open, 3)+"solid "+p+"a ; "+strings.Repeat("} ", 3))
	}
	stops(t, ground+"solid "+strings.Repeat("less { ", 3)+"less {", api.ErrDeep)
	stops(t, ground+"solid "+strings.Repeat("less { "+leaf, 3)+"both {", api.ErrDeep)
	stops(t, ground+open+"solid "+strings.Repeat("either { ", 3)+"either {", api.ErrDeep)
	stops(t, ground+"solid "+strings.Repeat("less { ", 3)+"less ;", api.ErrWord)
	holdError(t, ground+"solid "+part(4)+"a ;", api.ErrDeep)
	holdError(t, ground+"solid "+left(4)+"a ;", api.ErrDeep)
}

func TestShiftedTooFar(t *testing.T) {
	const twice = "repeat 2 by 1 -1 0.001 { "
	parsed(t, ground+twice+"ball 999 -999 999.999 radius 1 a ; }")
	parsed(t, ground+"repeat 3 by 1000 -1000 0 { plate -1000 1000 1000 up 1000 -1000 1000 radius 1 a ; }")
	for _, c := range []string{"999.001 0 0", "0 -999.001 0", "0 0 1000", "1000 -1000 1000", "1000 0 0", "0 -1000 0"} {
		for _, thing := range []string{"lamp %s light 0 0 0 ;", "ball %s radius 1 a ;", "block %s to 1000 1000 1000 a ;", "block -5 -1000 -5 to %s a ;", "tri %s , 0 0 0 , 0 0 0 a ;", "tri 0 0 0 , %s , 0 0 0 a ;", "tri 0 0 0 , 0 0 0 , %s a ;",
			"plate %s up 1 0 0 radius 1 a ;", "tube %s along 1 0 0 radius 1 a ;", "ring %s up 1 0 0 radius 1 1 a ;", "solid ball %s radius 1 a ;", "solid less { ball 0 0 0 radius 1 block -5 -1000 -5 to %s } a ;", "solid tube %s along 1 0 0 radius 1 a ;", "field 2 2 at %s side 1 high 0 0 0 0 a ;"} {
			begun := fmt.Sprintf(thing[:strings.Index(thing, "%s")+2], c)
			// The first time it isn't shifted: whatever is behind it then, all is well. The second time it is beyond, at the third number.
			holdError(t, ground+"repeat 1 by 0 0 0 { "+begun, api.ErrShort)
			holdError(t, ground+"repeat 2 by 1 -1 0.001 { "+begun, api.ErrShort)
			holdError(t, ground+"repeat 2 by 1 -1 0.001 { "+fmt.Sprintf(thing, c)+" }", api.ErrLimit)
		}
	}
	// What is read again is gone through up to the fault: there is one ahead of it, and one behind.
	at := "repeat 2 by 600 0 0 { repeat 2 by 0 600 0 { tri 0 0 0 , 500 500 0 , 0 0 0 a ; } }"
	holdError(t, ground+at, api.ErrLimit)
	parsed(t, ground+strings.ReplaceAll(at, "600", "500"))
	parsed(t, ground+strings.ReplaceAll(strings.Replace(at, "500 500 0", "500 500 1000", 1), "600", "-1000"))
	holdError(t, ground+strings.ReplaceAll(strings.Replace(at, "500 500 0", "500 500 1000", 1), "600", "-1500"), api.ErrLimit)
	// Shifts that are added may take each other back.
	parsed(t, ground+"repeat 2 by 1000 0 0 { repeat 1 by 0 0 0 { ball -500 0 0 radius 1 a ; } }")
	holdError(t, ground+"repeat 2 by 1000 0 0 { repeat 2 by 1000 0 0 { ball -500 0 0 radius 1 a ; } }", api.ErrLimit)
	parsed(t, ground+"repeat 2 by 1000 0 0 { repeat 2 by 1000 0 0 { ball -1000 0 0 radius 1 a ; } }")
	parsed(t, ground+"repeat 0 by 1000 0 0 { repeat 1 by 1000 0 0 { ball 1000 0 0 radius 1 a ; } }")
	stops(t, ground+"repeat 0 by 0 0 0 { repeat 2 by 1000 0 0 { ball 1 0 0 radius 1 a ; }", api.ErrLimit)
}

// The shift is added at the third number, not ahead of it: a fault there is told first.
func TestShiftIsAddedAtTheThirdNumber(t *testing.T) {
	// The second time the first number is too far; the third number is a fault each time, and told the first time.
	holdError(t, ground+"repeat 2 by 1000 0 0 { ball 1 0 x", api.ErrWord)
	// Too many balls are told at the ; of the 65th, which is ahead of the shift beyond.
	many := strings.Repeat(oneBall, 63)
	holdError(t, ground+many+"repeat 3 by 1000 0 0 { ball 0 0 0 radius 1 a ; }", api.ErrLimit)
	holdError(t, ground+"repeat 3 by 1000 0 0 { ball 0 0 0 radius 1 a ; }", api.ErrLimit)
	parsed(t, ground+"repeat 3 by 1000 0 0 { ball -1000 0 0 radius 1 a ; }")
}

// manySkins: so many.
func manySkins(n int) (text string) {
	for i := range n {
		text += fmt.Sprintf("skin a%d spread 0 0 0 mirror 0 0 0 glass 0 0 0 bend 1 ; ", i)
	}
	return text
}

func TestTooMany(t *testing.T) {
	for thing, most := range map[string]int{
		"lamp 0 0 0 light 0 0 0 ;": api.MaxLamps, "ball 0 0 0 radius 1 a ;": api.MaxShapes, "tri 0 0 0 , 0 0 0 , 0 0 0 a ;": api.MaxShapes, "ring 0 0 0 up 0 0 1 radius 1 1 a ;": api.MaxShapes,
		"solid ball 0 0 0 radius 1 a ;": api.MaxSolids, "field 2 2 at 0 0 0 side 1 high 0 0 0 0 a ;": api.MaxFields,
	} {
		just := ground + strings.Repeat(thing+" ", most)
		s := parsed(t, just)
		if n := len(s.Lamps) + len(s.Shapes) + len(s.Solids) + len(s.Fields); n != most {
			t.Errorf("%s: %d of %d", thing, n, most)
		}
		stops(t, just+thing, api.ErrLimit)
		one := "repeat 1 by 0 0 0 { " + thing + " "
		rest := ground + strings.Repeat(thing+" ", most-2)
		parsed(t, rest+"repeat 2 by 0 0 0 { "+thing+" }")
		holdError(t, rest+"repeat 3 by 0 0 0 { "+thing+" }", api.ErrLimit)
		stops(t, just+strings.TrimRight(one, " "), api.ErrLimit)
		// What is there 0 times counts while it is read, and no longer.
		stops(t, just+"repeat 0 by 0 0 0 { "+thing, api.ErrLimit)
		stops(t, rest+"repeat 0 by 0 0 0 { "+thing+" "+thing+" "+thing, api.ErrLimit)
		parsed(t, rest+"repeat 0 by 0 0 0 { "+thing+" "+thing+" } "+thing+" repeat 0 by 0 0 0 { "+thing+" } "+thing)
		holdError(t, rest+"repeat 0 by 0 0 0 { repeat 3 by 0 0 0 { "+thing+" } }", api.ErrLimit)
		parsed(t, rest+"repeat 0 by 0 0 0 { repeat 2 by 0 0 0 { "+thing+" } } "+thing+" "+thing)
	}
	parsed(t, eyeText+manySkins(api.MaxSkins))
	stops(t, eyeText+manySkins(api.MaxSkins)+"skin b", api.ErrLimit)
	stops(t, eyeText+manySkins(api.MaxSkins)+"skin a7", api.ErrDouble)
}

// What may not be is told ahead of what is too many.
func TestTooManyOfWhatMayNotBe(t *testing.T) {
	for thing, want := range map[string]api.Errno{
		"ball 0 0 0 radius 0 a ;": api.ErrValue, "plate 0 0 0 up 0 0 0 radius 1 a ;": api.ErrZero,
	} {
		stops(t, ground+strings.Repeat(oneBall, api.MaxShapes)+thing, want)
	}
	stops(t, ground+strings.Repeat("solid ball 0 0 0 radius 1 a ; ", api.MaxSolids)+"solid ball 0 0 0 radius -1 a ;", api.ErrValue)
	stops(t, ground+strings.Repeat("field 2 2 at 0 0 0 side 1 high 0 0 0 0 a ; ", api.MaxFields)+"field 2 2 at 0 0 0 side 0 high 0 0 0 0 a ;", api.ErrValue)
	stops(t, ground+strings.Repeat("lamp 0 0 0 light 0 0 0 ; ", api.MaxLamps)+"lamp 0 0 0 light 65537", api.ErrValue)
	stops(t, ground+strings.Repeat(oneBall, api.MaxShapes)+"ball 0 0 0 radius 1 b", api.ErrName)
}

func TestSkinsThatAreToldTwice(t *testing.T) {
	stops(t, ground+"skin a", api.ErrDouble)
	stops(t, ground+"skin b spread 0 0 0 mirror 0 0 0 glass 0 0 0 bend 1 ; skin b", api.ErrDouble)
	stops(t, ground+"ball 0 0 0 radius 1 aa", api.ErrName)
	stops(t, eyeText+"ball 0 0 0 radius 1 a", api.ErrName)
	// A skin must be told ahead of what wears it.
	holdError(t, eyeText+oneBall+skinText, api.ErrName)
	parsed(t, skinText+oneBall+eyeText)
}

func TestWithinBraces(t *testing.T) {
	for _, times := range []string{"0", "1", "2"} {
		open := "repeat " + times + " by 0 0 0 { "
		for _, word := range []string{"eye", "sky", "skin"} {
			stops(t, ground+open+word, api.ErrState)
			stops(t, skinText+open+word, api.ErrState)
			stops(t, ground+open+oneBall+open+word, api.ErrState)
			stops(t, ground+"sky 0 0 0 ; "+open+"} "+open+"lamp 0 0 0 light 0 0 0 ; "+word, api.ErrState)
		}
	}
	parsed(t, "repeat 2 by 0 0 0 { } "+ground+" repeat 2 by 0 0 0 { repeat 1 by 0 0 0 { } } sky 0 0 0 ; skin b spread 0 0 0 mirror 0 0 0 glass 0 0 0 bend 1 ;")
	stops(t, ground+"eye", api.ErrDouble)
	stops(t, eyeText+" eye", api.ErrDouble)
	stops(t, "sky 0 0 0 ; sky", api.ErrDouble)
	stops(t, ground+"sky 1 2 3 ; "+oneBall+"sky", api.ErrDouble)
}

// What a thing may not be is told at its ;.
func TestWhatMayNotBe(t *testing.T) {
	for _, c := range []struct {
		text string
		want api.Errno
	}{
		{"eye 0 0 0 to 0 0 1 up 0 1 0 wide 0 ;", api.ErrValue}, {"eye 0 0 0 to 0 0 1 up 0 1 0 wide -1 ;", api.ErrValue}, {"eye 1 2 3 to 1 2 3 up 0 1 0 wide 0 ;", api.ErrValue},
		{"eye 1 2 3 to 1 2 3 up 0 1 0 wide 1 ;", api.ErrZero}, {"eye 0 0 0 to 0 0 1 up 0 0 5 wide 1 ;", api.ErrZero}, {"eye 0 0 0 to 0 0 1 up 0 0 0 wide 1 ;", api.ErrZero},
		{"skin a spread 1000 0 0 mirror 1 0 0 glass 0 0 0 bend 1 ;", api.ErrValue}, {"skin a spread 400 400 400 mirror 300 300 300 glass 300 301 300 bend 1 ;", api.ErrValue},
		{"skin a spread 0 0 0 mirror 0 0 0 glass 0 0 0 bend 0.099 ;", api.ErrValue}, {"skin a spread 0 0 0 mirror 0 0 0 glass 0 0 0 bend 10.001 ;", api.ErrValue}, {"skin a spread 0 0 0 mirror 0 0 0 glass 0 0 0 bend -1 ;", api.ErrValue}, {"skin a spread 0 0 0 mirror 0 0 0 glass 0 0 0 bend 1000 ;", api.ErrValue},
	} {
		stops(t, c.text, c.want)
	}
	for _, c := range []struct {
		text string
		want api.Errno
	}{
		{"ball 0 0 0 radius 0 a ;", api.ErrValue}, {"ball 0 0 0 radius -1 a ;", api.ErrValue}, {"block 1 0 0 to 0 1 1 a ;", api.ErrValue}, {"block 0 0 0.001 to 1 1 0 a ;", api.ErrValue},
		{"plate 0 0 0 up 0 1 0 radius 0 a ;", api.ErrValue}, {"plate 0 0 0 up 0 0 0 radius 0 a ;", api.ErrValue}, {"plate 0 0 0 up 0 0 0 radius 1 a ;", api.ErrZero},
		{"tube 0 0 0 along 0 0 0 radius 1 a ;", api.ErrValue}, {"tube 0 0 0 along 1 1 0 radius 1 a ;", api.ErrValue}, {"tube 0 0 0 along 1 0 0 radius 0 a ;", api.ErrValue},
		{"ring 0 0 0 up 1 0 0 radius 1 2 a ;", api.ErrValue}, {"ring 0 0 0 up 1 0 0 radius 1 0 a ;", api.ErrValue}, {"ring 0 0 0 up 1 0 1 radius 2 1 a ;", api.ErrValue},
		{"solid ball 0 0 0 radius 0 a ;", api.ErrValue}, {"solid both { ball 0 0 0 radius 1 tube 0 0 0 along 1 1 1 radius 1 } a ;", api.ErrValue}, {"solid block 0 0 0 to -1 0 0 a ;", api.ErrValue},
	} {
		stops(t, ground+c.text, c.want)
		stops(t, ground+"repeat 0 by 1 1 1 { "+c.text, c.want)
		stops(t, ground+"repeat 2 by 0 0 0 { repeat 0 by 1 1 1 { "+c.text, c.want)
	}
	parsed(t, "eye 0 0 0 to 0 0 1 up 0 1 0 wide 1000 ; skin a spread 0 0 0 mirror 0 0 0 glass 0 0 0 bend 0.1 ; skin b spread 0 0 0 mirror 0 0 0 glass 0 0 0 bend 10 ;")
}

// The lists of a scene are its own: writing over one, with all that it has room for, changes no other, nor what the same text gives next.
func TestParseIsFresh(t *testing.T) {
	text := ground + "repeat 2 by 1 1 1 { " + strings.Join(lines()[2:], " ") + " }"
	a, b := parsed(t, text), parsed(t, text)
	kept := told(b)
	for i := range a.Solids {
		before := told(api.Scene{Solids: a.Solids[i+1:], Fields: a.Fields})
		for k := range a.Solids[i].Parts[:cap(a.Solids[i].Parts)] {
			a.Solids[i].Parts[:cap(a.Solids[i].Parts)][k].Op = 77
		}
		if told(api.Scene{Solids: a.Solids[i+1:], Fields: a.Fields}) != before {
			t.Error("solids share parts")
		}
	}
	for i := range a.Fields {
		before := told(api.Scene{Fields: a.Fields[i+1:]})
		for k := range a.Fields[i].High[:cap(a.Fields[i].High)] {
			a.Fields[i].High[:cap(a.Fields[i].High)][k] = 77
		}
		if told(api.Scene{Fields: a.Fields[i+1:]}) != before {
			t.Error("fields share heights")
		}
	}
	clear(a.Shapes)
	clear(a.Lamps)
	clear(a.Skins)
	if told(b) != kept || told(parsed(t, text)) != kept {
		t.Error("two scenes share a list")
	}
}

// As much as a text can ask for: it ends.
func TestParseEnds(t *testing.T) {
	open := strings.Repeat("repeat 16 by 0 0 0 { ", 2)
	long := ground + open + strings.Repeat("repeat 0 by 0 0 0 { "+strings.Repeat(oneBall, 40)+"} ", 18) + "} }"
	if len(long) > api.MaxText {
		t.Fatal("too long")
	}
	if s := parsed(t, long); len(s.Shapes) != 0 {
		t.Errorf("%d balls", len(s.Shapes))
	}
	parsed(t, ground+open+strings.Repeat("repeat 16 by 1 1 1 { } ", 600)+"} }")
	if _, e := scene.Parse(strings.Repeat("repeat 16 by 0 0 0 { ", 900)); e != api.ErrDeep {
		t.Errorf("900 deep: %d", e)
	}
	if _, e := scene.Parse("solid " + strings.Repeat("both { ", 2000)); e != api.ErrDeep {
		t.Errorf("2000 deep: %d", e)
	}
}
