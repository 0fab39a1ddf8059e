package pict

import (
	"strconv"
	"strings"

	"rayhouse/api"
	"rayhouse/skin"
)

const (
	textMark   = "P3"
	colours    = 3 // of a pixel; its cover is not told
	mostValue  = 255
	mostDigits = 6
	mostBytes  = 4 * api.MaxText
	gaps       = " \t\r\n"
	remark     = "#"
	lineEnd    = "\n"
)

// Text is a picture in decimal numbers, without its cover.
func Text(p api.Picture) (string, api.Errno) {
	if e := skin.May(p); e != api.OK {
		return "", e
	}
	var text strings.Builder
	text.WriteString(textMark + lineEnd)
	writeLine(&text, []int{p.W, p.H})
	writeLine(&text, []int{mostValue})
	for y := range p.H {
		writeLine(&text, coloursOf(p, y))
	}
	return text.String(), api.OK
}

// coloursOf is red, green and blue of each pixel of a row.
func coloursOf(p api.Picture, y int) []int {
	row := p.Pix[pixelBytes*p.W*y : pixelBytes*p.W*(y+1)]
	numbers := make([]int, 0, colours*p.W)
	for i, n := range row {
		if i%pixelBytes < colours {
			numbers = append(numbers, int(n))
		}
	}
	return numbers
}

// writeLine puts numbers behind a text, one blank between.
func writeLine(text *strings.Builder, numbers []int) {
	for i, n := range numbers {
		if i > 0 {
			text.WriteByte(' ')
		}
		text.WriteString(strconv.Itoa(n))
	}
	text.WriteString(lineEnd)
}

// Read is the picture of such a text: words between blanks and ends of lines; from # on to a line's end all is passed over. Its cover is whole.
func Read(text string) (api.Picture, api.Errno) {
	if len(text) > mostBytes {
		return api.Picture{}, api.ErrLimit
	}
	r := reader{rest: text}
	p, e := r.head()
	if e != api.OK {
		return api.Picture{}, e
	}
	for range p.W * p.H {
		pixel, e := r.numbers()
		if e != api.OK {
			return api.Picture{}, e
		}
		p.Pix = append(p.Pix, byte(pixel[0]), byte(pixel[1]), byte(pixel[2]), mostValue)
	}
	if r.word() != "" {
		return api.Picture{}, api.ErrCount
	}
	return p, api.OK
}

// reader: what of a text is still to be read.
type reader struct {
	rest string
}

// head reads all that stands ahead of the pixels: a picture of none yet.
func (r *reader) head() (api.Picture, api.Errno) {
	switch r.word() {
	case "":
		return api.Picture{}, api.ErrShort
	case textMark:
	default:
		return api.Picture{}, api.ErrForm
	}
	head, e := r.numbers()
	if e != api.OK {
		return api.Picture{}, e
	}
	if !isSide(head[0]) || !isSide(head[1]) {
		return api.Picture{}, api.ErrLimit
	}
	if head[2] != mostValue {
		return api.Picture{}, api.ErrValue
	}
	return api.Picture{W: head[0], H: head[1]}, api.OK
}

// numbers reads three of them: there are three ahead of the pixels, and three of each.
func (r *reader) numbers() (l [3]int, e api.Errno) {
	for i := range l {
		l[i], e = numberOf(r.word())
		if e != api.OK {
			return [3]int{}, e
		}
	}
	return l, api.OK
}

// word reads the next word; it is empty if there is none.
func (r *reader) word() string {
	r.pass()
	end := strings.IndexAny(r.rest, gaps+remark)
	if end < 0 {
		end = len(r.rest)
	}
	word := r.rest[:end]
	r.rest = r.rest[end:]
	return word
}

// pass goes on to where the next word begins, over gaps and remarks.
func (r *reader) pass() {
	r.rest = strings.TrimLeft(r.rest, gaps)
	for strings.HasPrefix(r.rest, remark) {
		_, r.rest, _ = strings.Cut(r.rest, lineEnd)
		r.rest = strings.TrimLeft(r.rest, gaps)
	}
}

// numberOf is the number that a word tells.
func numberOf(word string) (int, api.Errno) {
	if word == "" {
		return 0, api.ErrShort
	}
	if len(word) > mostDigits {
		return 0, api.ErrWord
	}
	n := 0
	for i := range len(word) {
		if word[i] < '0' || word[i] > '9' {
			return 0, api.ErrWord
		}
		n = 10*n + int(word[i]-'0')
	}
	if n > mostValue {
		return 0, api.ErrValue
	}
	return n, api.OK
}
