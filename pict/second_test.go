package pict_test

import (
	"bytes"
	"fmt"
	"math/big"
	"regexp"
	"slices"
	"strconv"
	"strings"

	"rayhouse/api"
)

// Second workings of G1 to G3, by other ways than the program's.

type four [4]byte

// stretch: so many times the same pixel.
type stretch struct {
	pixel four
	times int
}

func fours(p api.Picture) (l []four) {
	for i := 0; i < len(p.Pix); i += 4 {
		l = append(l, four(p.Pix[i:i+4]))
	}
	return l
}

// stretches: all of a picture, cut where pixels change and behind each 128 like ones.
func stretches(p api.Picture) (l []stretch) {
	for _, f := range fours(p) {
		if n := len(l); n > 0 && l[n-1].pixel == f && l[n-1].times < 128 {
			l[n-1].times++
		} else {
			l = append(l, stretch{f, 1})
		}
	}
	return l
}

// secondPack: the bytes of a picture; its sides need not be its own.
func secondPack(p api.Picture) []byte {
	b := []byte{'R', 'H', 'P', '1', byte(p.W), byte(p.H)}
	var gathered []byte
	flush := func() {
		for piece := range slices.Chunk(gathered, 4*128) {
			b = append(b, byte(len(piece)/4-1))
			b = append(b, piece...)
		}
		gathered = nil
	}
	for _, s := range stretches(p) {
		if s.times == 1 {
			gathered = append(gathered, s.pixel[:]...)
			continue
		}
		flush()
		b = append(b, byte(127+s.times))
		b = append(b, s.pixel[:]...)
	}
	flush()
	return sealed(b)
}

// sealed: bytes with s and t behind them: s is 1 and all of them together, t so many times 1, and each byte as often as there are bytes from it on.
func sealed(b []byte) []byte {
	s, t := big.NewInt(1), big.NewInt(int64(len(b)))
	for i, x := range b {
		s.Add(s, big.NewInt(int64(x)))
		t.Add(t, big.NewInt(int64(x)*int64(len(b)-i)))
	}
	round := big.NewInt(251)
	return append(slices.Clone(b), byte(s.Mod(s, round).Int64()), byte(t.Mod(t, round).Int64()))
}

// secondUnpack: G2 by places in the bytes, and by how many pixels are missing.
func secondUnpack(b []byte) (api.Picture, api.Errno) {
	none := api.Picture{}
	switch {
	case len(b) < 6:
		return none, api.ErrShort
	case string(b[:4]) != "RHP1":
		return none, api.ErrForm
	case b[4] == 0 || b[5] == 0 || b[4] > 64 || b[5] > 64:
		return none, api.ErrLimit
	}
	p := api.Picture{W: int(b[4]), H: int(b[5])}
	at := 6
	for missing := p.W * p.H; missing > 0; {
		if at >= len(b) {
			return none, api.ErrShort
		}
		has, gives := 4*int(b[at])+4, int(b[at])+1
		if b[at] >= 128 {
			has, gives = 4, int(b[at])-127
		}
		if at+1+has > len(b) {
			return none, api.ErrShort
		}
		if missing -= gives; missing < 0 {
			return none, api.ErrCount
		}
		p.Pix = append(p.Pix, bytes.Repeat(b[at+1:at+1+has], 4*gives/has)...)
		at += 1 + has
	}
	switch {
	case len(b)-at < 2:
		return none, api.ErrShort
	case len(b)-at > 2:
		return none, api.ErrCount
	case !bytes.Equal(sealed(b[:at]), b):
		return none, api.ErrCheck
	case !bytes.Equal(secondPack(p), b):
		return none, api.ErrForm
	}
	return p, api.OK
}

// secondText: G3's lines.
func secondText(p api.Picture) string {
	lines := []string{"P3", fmt.Sprint(p.W, p.H), "255"}
	for row := range slices.Chunk(fours(p), p.W) {
		var words []string
		for _, f := range row {
			words = append(words, fmt.Sprintf("%d %d %d", f[0], f[1], f[2]))
		}
		lines = append(lines, strings.Join(words, " "))
	}
	return strings.Join(lines, "\n") + "\n"
}

var (
	remarks = regexp.MustCompile(`#[^\n]*`)
	gaps    = regexp.MustCompile(`[ \t\r\n]+`)
	digits  = regexp.MustCompile(`^[0-9]{1,6}$`)
)

// secondWords: those of a text. Bytes beyond 127 are taken as letters, so that no pattern can stumble over them.
func secondWords(text string) (l []string) {
	plain := strings.Map(func(r rune) rune {
		if r > 127 {
			return 'x'
		}
		return r
	}, text)
	for _, w := range gaps.Split(remarks.ReplaceAllString(plain, ""), -1) {
		if w != "" {
			l = append(l, w)
		}
	}
	return l
}

// secondRead: G3 back, over all words at once.
func secondRead(text string) (api.Picture, api.Errno) {
	none := api.Picture{}
	if len(text) > 80000 {
		return none, api.ErrLimit
	}
	words := secondWords(text)
	if len(words) == 0 {
		return none, api.ErrShort
	}
	if words[0] != "P3" {
		return none, api.ErrForm
	}
	p, asked := none, 3
	var numbers []int
	for i := 0; i < asked; i++ {
		if i+1 == len(words) {
			return none, api.ErrShort
		}
		if !digits.MatchString(words[i+1]) {
			return none, api.ErrWord
		}
		n, _ := strconv.Atoi(words[i+1])
		if n > 255 {
			return none, api.ErrValue
		}
		if numbers = append(numbers, n); i != 2 {
			continue
		}
		p.W, p.H = numbers[0], numbers[1]
		if p.W < 1 || p.W > 64 || p.H < 1 || p.H > 64 {
			return none, api.ErrLimit
		}
		if n != 255 {
			return none, api.ErrValue
		}
		asked += 3 * p.W * p.H
	}
	if len(words) > asked+1 {
		return none, api.ErrCount
	}
	for pixel := range slices.Chunk(numbers[3:], 3) {
		p.Pix = append(p.Pix, byte(pixel[0]), byte(pixel[1]), byte(pixel[2]), 255)
	}
	return p, api.OK
}
