package pict_test

import (
	"bytes"
	"fmt"
	"slices"
	"strings"
	"testing"

	"rayhouse/api"
	"rayhouse/pict"
	"rayhouse/skin"
)

const mostText = 80000

func told(t *testing.T, p api.Picture) string {
	t.Helper()
	text, e := pict.Text(p)
	if e != api.OK {
		t.Fatalf("Text of %d by %d: %d", p.W, p.H, e)
	}
	return text
}

// covered: a copy, with the cover of 255 that all get that are read.
func covered(p api.Picture) api.Picture {
	p.Pix = slices.Clone(p.Pix)
	for i := 3; i < len(p.Pix); i += 4 {
		p.Pix[i] = 255
	}
	return p
}

// short: the first bytes of a text.
func short(text string) string {
	return text[:min(len(text), 200)]
}

func holdRead(t *testing.T, text string, want api.Picture) {
	t.Helper()
	if p, e := pict.Read(text); e != api.OK || !same(p, want) {
		t.Errorf("Read of %q: %v, %d, not %v", short(text), p, e, want)
	}
	holdReadSecond(t, text)
}

func holdReadError(t *testing.T, text string, want api.Errno) {
	t.Helper()
	if p, e := pict.Read(text); e != want || !empty(p) {
		t.Errorf("Read of %q: %v, %d, not %d", short(text), p, e, want)
	}
	holdReadSecond(t, text)
}

// holdReadSecond: the picture or the error of a text, against the second working.
func holdReadSecond(t *testing.T, text string) api.Errno {
	t.Helper()
	p, e := pict.Read(text)
	if q, want := secondRead(text); e != want || !same(p, q) {
		t.Fatalf("Read of %q: %v, %d, not %v, %d", short(text), p, e, q, want)
	}
	return e
}

// G3

func TestTextOfKnownPictures(t *testing.T) {
	for _, c := range []struct {
		p    api.Picture
		want string
	}{
		{api.Picture{W: 1, H: 1, Pix: []byte{0, 0, 0, 0}}, "P3\n1 1\n255\n0 0 0\n"},
		{api.Picture{W: 1, H: 1, Pix: []byte{255, 10, 9, 7}}, "P3\n1 1\n255\n255 10 9\n"},
		{api.Picture{W: 2, H: 1, Pix: []byte{1, 2, 3, 4, 5, 6, 7, 8}}, "P3\n2 1\n255\n1 2 3 5 6 7\n"},
		{api.Picture{W: 1, H: 2, Pix: []byte{1, 2, 3, 4, 5, 6, 7, 8}}, "P3\n1 2\n255\n1 2 3\n5 6 7\n"},
		{api.Picture{W: 2, H: 2, Pix: []byte{1, 2, 3, 4, 5, 6, 7, 8, 99, 100, 101, 102, 0, 200, 0, 0}}, "P3\n2 2\n255\n1 2 3 5 6 7\n99 100 101 0 200 0\n"},
	} {
		if got := told(t, c.p); got != c.want {
			t.Errorf("Text of %v: %q, not %q", c.p, got, c.want)
		}
		holdRead(t, c.want, covered(c.p))
	}
}

func TestTextThereAndBack(t *testing.T) {
	d := die(6)
	for _, s := range sides() {
		w, h := s[0], s[1]
		for _, p := range []api.Picture{filled(w, h, four{}), filled(w, h, four{255, 255, 255, 0}), unlike(w, h), d.drawn(w, h), d.streaked(w, h, 5)} {
			text := told(t, p)
			if want := secondText(p); text != want {
				t.Fatalf("Text of %v: %q, not %q", p, text, want)
			}
			holdRead(t, text, covered(p))
			if again := told(t, covered(p)); again != text {
				t.Errorf("%q is %q, with another cover", short(text), short(again))
			}
		}
	}
}

func TestTextRefuses(t *testing.T) {
	for _, p := range refused() {
		want := skin.May(p)
		if text, e := pict.Text(p); e != want || text != "" {
			t.Errorf("Text of %d by %d with %d bytes: %q, %d, not %d", p.W, p.H, len(p.Pix), text, e, want)
		}
	}
}

// Words stand as before with other gaps, and with remarks, between them.
func TestGapsAndRemarks(t *testing.T) {
	d := die(7)
	for _, s := range [][2]int{{1, 1}, {2, 3}, {5, 4}} {
		p := covered(d.drawn(s[0], s[1]))
		words := strings.Fields(told(t, p))
		for _, gap := range []string{" ", "\t", "\r", "\n", "\r\n", "   ", " \t\r\n \n\n", " # 9 9 9\n", "#\n", "# P3 #\n", "##\r\n", "\n#a\n#b\n\n", "#\r\r 7\t\n", "#\xff\xfe\x00\n", "#ω\n"} {
			text := strings.Join(words, gap)
			holdRead(t, text, p)
			holdRead(t, gap+text+gap, p)
			holdRead(t, text+"#", p)
			holdRead(t, text+" # 1 2 3", p)
			holdRead(t, text+gap+"#256 x", p)
			holdRead(t, "# P6\n#\n"+text, p)
		}
		for range 200 {
			text := ""
			for _, w := range words {
				text += w
				for range 1 + d.n(3) {
					text += []string{" ", "\t", "\r", "\n", "#7 7\n", "  ", "#\n"}[d.n(7)]
				}
			}
			holdRead(t, text, p)
		}
	}
	one := api.Picture{W: 1, H: 1, Pix: []byte{1, 2, 3, 255}}
	for _, text := range []string{
		"P3 1 1 255 1 2 3", "P3#\n1#1\n1#\n255#2 3\n1#9\n2#\n3#", "#\nP3 1 1 255 1 2 3", "P3 1 1 255 1 2 3# 4 5 6", "P3 1 1 255 1 2 3#", "P3 1 1 255 1 2 #4\n3", "P3 01 001 000255 1 000002 03", "P3\r1\r1\r255\r1\r2\r3\r",
	} {
		holdRead(t, text, one)
	}
	// The line's end ends a word too: what stands behind it is another one.
	holdReadError(t, "P3 1 1 255 1 2 3#\n4", api.ErrCount)
	holdReadError(t, "P3 1 1 25#\n5 1 2 3", api.ErrValue)
	holdReadError(t, "P#\n3 1 1 255 1 2 3", api.ErrForm)
	// A carriage return ends no remark.
	holdReadError(t, "P3 1 1 255 1 2 #\r3", api.ErrShort)
	holdReadError(t, "P3 1 1 255 #1 2 3", api.ErrShort)
	holdReadError(t, "#P3 1 1 255 1 2 3", api.ErrShort)
	// Nothing else is a gap.
	for _, sign := range []string{"\v", "\f", "\x00", "\u00a0", "\u0085", "\u2028", ",", ";", "\x85", "\xa0", "\x1f"} {
		holdReadError(t, "P3 1 1 255 1"+sign+"2 3", api.ErrWord)
		holdReadError(t, sign+"P3 1 1 255 1 2 3", api.ErrForm)
		holdReadError(t, "P3 1 1 255 1 2 3"+sign, api.ErrWord)
		holdReadError(t, "P3 1 1 255 1 2 3 "+sign, api.ErrCount)
	}
}

func TestHowLongATextIs(t *testing.T) {
	one := api.Picture{W: 1, H: 1, Pix: []byte{1, 2, 3, 255}}
	const text = "P3 1 1 255 1 2 3"
	for _, with := range []string{" ", "\n", "#", "\t"} {
		long := text + " " + strings.Repeat(with, mostText-len(text)-1)
		if len(long) != mostText {
			t.Fatalf("%d bytes", len(long))
		}
		holdRead(t, long, one)
		holdReadError(t, long+with, api.ErrLimit)
		holdReadError(t, long+long, api.ErrLimit)
		holdReadError(t, strings.Repeat(with, mostText), api.ErrShort)
		holdReadError(t, strings.Repeat(with, mostText+1), api.ErrLimit)
	}
	holdReadError(t, strings.Repeat("x", mostText), api.ErrForm)
	holdReadError(t, strings.Repeat("x", mostText+1), api.ErrLimit)
	// Bytes are counted, not runes.
	holdReadError(t, strings.Repeat("ω", mostText/2), api.ErrForm)
	holdReadError(t, strings.Repeat("ω", mostText/2)+"a", api.ErrLimit)
	full := told(t, filled(api.MaxSide, api.MaxSide, four{255, 255, 255, 255}))
	long := full + strings.Repeat(" ", mostText-len(full))
	holdRead(t, long, filled(api.MaxSide, api.MaxSide, four{255, 255, 255, 255}))
	holdReadError(t, long+"\n", api.ErrLimit)
}

// None, one and several words too few, and too many.
func TestHowManyWords(t *testing.T) {
	for _, p := range []api.Picture{covered(unlike(1, 1)), covered(unlike(3, 2)), covered(unlike(2, 3)), covered(unlike(api.MaxSide, 2))} {
		words := strings.Fields(told(t, p))
		for n := range words {
			cut := strings.Join(words[:n], " ")
			for _, behind := range []string{"", " ", "\n", "\t\r\n", "#", " #1 2 3", "\n# 4 5 6\n"} {
				holdReadError(t, cut+behind, api.ErrShort)
			}
		}
		text := strings.Join(words, " ")
		holdRead(t, text, p)
		for _, more := range []string{" 1", "\n1 2 3", " x", " P3", " 256", " 1234567", " 1#", "#\n1", "\r-"} {
			holdReadError(t, text+more, api.ErrCount)
		}
	}
}

func TestTheFirstWord(t *testing.T) {
	for _, first := range []string{"P", "P2", "P6", "p3", "P33", "3", "3P", "P3x", "xP3", "\"P3\"", "P3,", "255", "-", "P3\x00", "Р3"} {
		holdReadError(t, first, api.ErrForm)
		holdReadError(t, first+" 1 1 255 1 2 3", api.ErrForm)
		holdReadError(t, first+" 1 1 255 1 2 3 4", api.ErrForm)
		holdReadError(t, first+" 0 x 256", api.ErrForm)
	}
	holdReadError(t, "", api.ErrShort)
	holdReadError(t, "P3", api.ErrShort)
}

// at: a text of 2 by 2 pixels with one of its numbers another; whatever stands behind that.
func at(which int, word string) string {
	words := strings.Fields("2 2 255 1 2 3 4 5 6 7 8 9 10 11 12")
	words[which] = word
	return "P3 " + strings.Join(words, " ")
}

// Each number, at each place, may have 1 to 6 digits, and no other sign.
func TestEachWord(t *testing.T) {
	for which := range 15 {
		for _, word := range []string{"0000000", "0000002", "1234567", "00000000255", "99999999999999999999", "-1", "+1", "-0", "1.0", "1e1", "0x1", "1_0", "x", "12x", "x12", "٣", "１", "1\x00", "1,", "P3", "2-", "\xff", "/", ":", "2:", "/2"} {
			holdReadError(t, at(which, word), api.ErrWord)
			holdReadError(t, strings.Join(strings.Fields(at(which, word))[:which+2], " "), api.ErrWord)
		}
		for _, word := range []string{"256", "257", "300", "0256", "000256", "511", "512", "999", "1000", "65536", "65537", "99999", "100000", "999999", "100002"} {
			holdReadError(t, at(which, word), api.ErrValue)
			holdReadError(t, strings.Join(strings.Fields(at(which, word))[:which+2], " "), api.ErrValue)
		}
	}
	for which := 3; which < 15; which++ {
		for n := range 256 {
			for _, form := range []string{"%d", "%03d", "%06d"} {
				p, e := pict.Read(at(which, fmt.Sprintf(form, n)))
				if i := which - 3; e != api.OK || int(p.Pix[i/3*4+i%3]) != n {
					t.Fatalf("%d at %d: %v, %d", n, which, p, e)
				}
			}
		}
	}
	for _, word := range []string{"2", "02", "000002"} {
		for which := range 2 {
			holdRead(t, at(which, word), api.Picture{W: 2, H: 2, Pix: []byte{1, 2, 3, 255, 4, 5, 6, 255, 7, 8, 9, 255, 10, 11, 12, 255}})
		}
	}
}

// The sides are looked at behind all three of the first numbers, and the third behind the sides.
func TestTheFirstNumbers(t *testing.T) {
	for _, s := range []string{"0 1", "1 0", "0 0", "65 1", "1 65", "65 65", "255 255", "0 255", "255 1", "00 000001", "64 65"} {
		for _, behind := range []string{" 255", " 255 1 2 3", " 255 x", " 0", " 254 x", " 255 256"} {
			holdReadError(t, "P3 "+s+behind, api.ErrLimit)
		}
		holdReadError(t, "P3 "+s, api.ErrShort)
		holdReadError(t, "P3 "+s+" x", api.ErrWord)
		holdReadError(t, "P3 "+s+" 1234567", api.ErrWord)
		holdReadError(t, "P3 "+s+" 256", api.ErrValue)
	}
	for _, third := range []string{"0", "1", "254", "000", "128"} {
		for _, behind := range []string{"", " 1 2 3", " x", " 1 2 3 4", " 256"} {
			holdReadError(t, "P3 1 1 "+third+behind, api.ErrValue)
		}
	}
	holdReadError(t, "P3 0 256 x", api.ErrValue)
	holdReadError(t, "P3 0 x 256", api.ErrWord)
	holdReadError(t, "P3 256 x", api.ErrValue)
	for _, s := range [][2]int{{64, 1}, {1, 64}, {64, 64}} {
		p := covered(unlike(s[0], s[1]))
		holdRead(t, told(t, p), p)
		short := strings.Fields(told(t, p))
		holdReadError(t, strings.Join(short[:len(short)-1], " "), api.ErrShort)
	}
}

func TestReadOfDrawnTexts(t *testing.T) {
	d := die(8)
	pieces := []string{" ", "\n", "\t", "\r", "#", "#\n", "0", "1", "2", "5", "255", "256", "-", "x", "P3", " 1 ", "\xff", "ω", "000000", ""}
	var seen [16]int
	for range 20000 {
		text := told(t, d.streaked(1+d.n(3), 1+d.n(3), 3))
		for range d.n(4) {
			k := d.n(len(text) + 1)
			text = text[:k] + pieces[d.n(len(pieces))] + text[min(len(text), k+d.n(3)):]
		}
		seen[holdReadSecond(t, text)]++
	}
	for range 20000 {
		text := "P3 "
		for range d.n(14) {
			text += pieces[d.n(len(pieces))]
		}
		holdReadSecond(t, text)
	}
	for _, e := range []api.Errno{api.OK, api.ErrShort, api.ErrForm, api.ErrWord, api.ErrValue, api.ErrLimit, api.ErrCount} {
		if seen[e] == 0 {
			t.Errorf("%d was never told", e)
		}
	}
}

// X2

func TestTextAndReadAreFresh(t *testing.T) {
	d := die(9)
	p := d.drawn(6, 5)
	kept := slices.Clone(p.Pix)
	text := told(t, p)
	if !bytes.Equal(p.Pix, kept) {
		t.Error("Text wrote into the picture")
	}
	was := strings.Clone(text)
	wipe(p.Pix)
	if text != was {
		t.Error("a text changes with its picture")
	}
	a, _ := pict.Read(text)
	b, _ := pict.Read(text)
	kept = slices.Clone(a.Pix)
	wipe(b.Pix)
	if !bytes.Equal(a.Pix, kept) || text != was {
		t.Error("what was read changes with another, or the text does")
	}
}
