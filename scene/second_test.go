package scene_test

import (
	"fmt"
	"math"
	"regexp"
	"slices"
	"strconv"
	"strings"
	"testing"

	"rayhouse/api"
	"rayhouse/field"
	"rayhouse/scene"
	"rayhouse/shape"
	"rayhouse/solid"
)

// A second reader of scenes: each line of the document's grammar is a text that is gone through word by word; what a word is is told by regular expressions; a fault is handed up.

const letters = `a-z\x{df}-\x{f6}\x{f8}-\x{ff}\x{3b1}-\x{3c9}`

var (
	aToken  = regexp.MustCompile(`[` + letters + `0-9.\-]+|[^ \t\n]`)
	aNumber = regexp.MustCompile(`^-?(0|[1-9][0-9]{0,8})(\.[0-9]{1,3})?$`)
	aWhole  = regexp.MustCompile(`^(0|-?[1-9][0-9]{0,8})$`)
	aName   = regexp.MustCompile(`^[` + letters + `][` + letters + `0-9]{0,11}$`)
)

// grammar: N a number, D a number that is shifted, with its place in the point (1 to 3), L a whole of a light, C of a skin, T a number of times, G of a grid's points, W the name of a skin that is there, M of one that isn't.
var grammar = map[string]string{
	"eye":    "D1 D2 D3 to D1 D2 D3 up N N N wide N ;",
	"sky":    "L L L ;",
	"skin":   "M spread C C C mirror C C C glass C C C bend N ;",
	"lamp":   "D1 D2 D3 light L L L ;",
	"ball":   "D1 D2 D3 radius N",
	"block":  "D1 D2 D3 to D1 D2 D3",
	"tri":    "D1 D2 D3 , D1 D2 D3 , D1 D2 D3",
	"plate":  "D1 D2 D3 up N N N radius N",
	"tube":   "D1 D2 D3 along N N N radius N",
	"ring":   "D1 D2 D3 up N N N radius N N",
	"field":  "G G at D1 D2 D3 side N high",
	"repeat": "T by N N N {",
}

var kinds = []string{"", "ball", "block", "tri", "plate", "tube", "ring"}

type second struct {
	tokens []string
	at     int
	names  []string
	s      api.Scene
	seen   map[string]int
}

// values goes through a line of the grammar: its numbers in thousandths, wholes as they are, which skin.
func (r *second) values(line string, shift [3]int) (l []int, e api.Errno) {
	for _, slot := range strings.Fields(line) {
		if r.at == len(r.tokens) {
			return nil, api.ErrShort
		}
		token := r.tokens[r.at]
		r.at++
		n := 0
		switch slot[0] {
		case 'N', 'D', 'T', 'G':
			n, e = secondNumber(slot, token)
			if slot[0] == 'D' && e == api.OK {
				n += shift[slot[1]-'1']
			}
		case 'L', 'C':
			n, e = secondWhole(slot, token)
		case 'W', 'M':
			n, e = r.secondName(slot, token)
		default:
			if token != slot {
				return nil, api.ErrWord
			}
			continue
		}
		if e != api.OK {
			return nil, e
		}
		l = append(l, n)
		if slot == "D3" {
			for _, n := range l[len(l)-3:] {
				if n < -1000000 || n > 1000000 {
					return nil, api.ErrLimit
				}
			}
		}
	}
	return l, api.OK
}

func secondNumber(slot, token string) (int, api.Errno) {
	if !aNumber.MatchString(token) {
		return 0, api.ErrWord
	}
	x, _ := strconv.ParseFloat(token, 64)
	if math.Abs(x) > 1000 {
		return 0, api.ErrLimit
	}
	most := map[byte]float64{'T': 16, 'G': 8}[slot[0]]
	if most > 0 && x != math.Trunc(x) {
		return 0, api.ErrWord
	}
	if most > 0 && (x < 0 || x > most) {
		return 0, api.ErrValue
	}
	return int(math.Round(x * 1000)), api.OK
}

func secondWhole(slot, token string) (int, api.Errno) {
	if !aWhole.MatchString(token) {
		return 0, api.ErrWord
	}
	n, _ := strconv.Atoi(token)
	if n < 0 || n > map[byte]int{'L': 65536, 'C': 1000}[slot[0]] {
		return 0, api.ErrValue
	}
	return n, api.OK
}

func (r *second) secondName(slot, token string) (int, api.Errno) {
	which := slices.Index(r.names, token)
	switch {
	case !aName.MatchString(token):
		return 0, api.ErrWord
	case slot == "W" && which < 0:
		return 0, api.ErrName
	case slot == "M" && which >= 0:
		return 0, api.ErrDouble
	case slot == "M" && len(r.names) == 16:
		return 0, api.ErrLimit
	case slot == "M":
		r.names = append(r.names, token)
	}
	return which, api.OK
}

func points(l []int) (p []api.Vec) {
	for i := 0; i+3 <= len(l); i += 3 {
		p = append(p, v(float64(l[i])/1000, float64(l[i+1])/1000, float64(l[i+2])/1000))
	}
	return p
}

func threeOf(l []int) [3]int {
	return [3]int(l[:3])
}

// shapeOf: the values of a shape.
func shapeOf(kind int, l []int) api.Shape {
	p := points(l)
	s := api.Shape{Kind: kind, A: p[0]}
	if kind != api.Ball {
		s.B = p[1]
	}
	switch kind {
	case api.Ball:
		s.R = float64(l[3]) / 1000
	case api.Tri:
		s.C = p[2]
	case api.Plate, api.Tube:
		s.R = float64(l[6]) / 1000
	case api.Ring:
		s.R, s.Q = float64(l[6])/1000, float64(l[7])/1000
	}
	return s
}

// things: up to the end (depth 0), or to a }.
func (r *second) things(depth int, shift [3]int) api.Errno {
	for {
		if r.at == len(r.tokens) {
			if depth > 0 {
				return api.ErrShort
			}
			return api.OK
		}
		word := r.tokens[r.at]
		r.at++
		if word == "}" {
			if depth > 0 {
				return api.OK
			}
			return api.ErrWord
		}
		if e := r.one(word, depth, shift); e != api.OK {
			return e
		}
	}
}

func (r *second) one(word string, depth int, shift [3]int) api.Errno {
	switch {
	case word == "solid":
		return r.solid(shift)
	case grammar[word] == "":
		return api.ErrWord
	case depth > 0 && (word == "eye" || word == "sky" || word == "skin"):
		return api.ErrState
	case (word == "eye" || word == "sky") && r.seen[word] > 0:
		return api.ErrDouble
	}
	r.seen[word]++
	l, e := r.values(grammar[word], shift)
	if e != api.OK {
		return e
	}
	if kind := slices.Index(kinds, word); kind > 0 {
		return r.shape(shapeOf(kind, l))
	}
	if word == "repeat" {
		return r.repeat(l, depth, shift)
	}
	if word == "field" {
		return r.field(l)
	}
	return r.simple(word, l)
}

func (r *second) simple(word string, l []int) api.Errno {
	switch word {
	case "eye":
		p := points(l[:9])
		r.s.Eye = api.Eye{At: p[0], To: p[1], Up: p[2], Wide: float64(l[9]) / 1000}
		return scene.MayEye(r.s.Eye)
	case "sky":
		r.s.Sky = threeOf(l)
	case "skin":
		k := api.Skin{Spread: threeOf(l[1:]), Mirror: threeOf(l[4:]), Glass: threeOf(l[7:]), Bend: l[10]}
		r.s.Skins = append(r.s.Skins, k)
		return scene.MaySkin(k)
	case "lamp":
		r.s.Lamps = append(r.s.Lamps, api.Lamp{At: points(l)[0], Light: threeOf(l[3:])})
		return limit(len(r.s.Lamps), 4)
	}
	return api.OK
}

func limit(n, most int) api.Errno {
	if n > most {
		return api.ErrLimit
	}
	return api.OK
}

func first(l ...api.Errno) api.Errno {
	for _, e := range l {
		if e != api.OK {
			return e
		}
	}
	return api.OK
}

func (r *second) shape(s api.Shape) api.Errno {
	l, e := r.values("W ;", [3]int{})
	if e != api.OK {
		return e
	}
	s.Skin = l[0]
	r.s.Shapes = append(r.s.Shapes, s)
	return first(shape.May(s), limit(len(r.s.Shapes), 64))
}

func (r *second) field(l []int) api.Errno {
	f := api.Field{W: l[0] / 1000, H: l[1] / 1000, At: points(l[2:])[0], Side: float64(l[5]) / 1000}
	high, e := r.values(strings.Repeat("N ", f.W*f.H), [3]int{})
	if e != api.OK {
		return e
	}
	l, e = r.values("W ;", [3]int{})
	if e != api.OK {
		return e
	}
	f.High, f.Skin = high, l[0]
	r.s.Fields = append(r.s.Fields, f)
	return first(field.May(f), limit(len(r.s.Fields), 2))
}

func (r *second) solid(shift [3]int) api.Errno {
	var s api.Solid
	if e := r.part(&s, 0, shift); e != api.OK {
		return e
	}
	l, e := r.values("W ;", shift)
	if e != api.OK {
		return e
	}
	s.Skin = l[0]
	r.s.Solids = append(r.s.Solids, s)
	return first(solid.May(s), limit(len(r.s.Solids), 8))
}

func (r *second) part(s *api.Solid, depth int, shift [3]int) api.Errno {
	if r.at == len(r.tokens) {
		return api.ErrShort
	}
	word := r.tokens[r.at]
	r.at++
	if kind := slices.Index(kinds, word); kind == api.Ball || kind == api.Block || kind == api.Tube {
		l, e := r.values(grammar[word], shift)
		if e == api.OK {
			s.Parts = append(s.Parts, leaf(shapeOf(kind, l)))
		}
		return e
	}
	op := slices.Index([]string{"both", "either", "less"}, word) + 1
	if op == 0 {
		return api.ErrWord
	}
	if _, e := r.values("{", shift); e != api.OK {
		return e
	}
	if depth == 3 {
		return api.ErrDeep
	}
	if e := r.part(s, depth+1, shift); e != api.OK {
		return e
	}
	left := len(s.Parts) - 1
	if e := r.part(s, depth+1, shift); e != api.OK {
		return e
	}
	right := len(s.Parts) - 1
	_, e := r.values("}", shift)
	s.Parts = append(s.Parts, made(op, left, right))
	return e
}

func (r *second) repeat(l []int, depth int, shift [3]int) api.Errno {
	if depth == 3 {
		return api.ErrDeep
	}
	times, from, before := l[0]/1000, r.at, copied(r.s)
	for i := range max(times, 1) {
		r.at = from
		at := [3]int{shift[0] + i*l[1], shift[1] + i*l[2], shift[2] + i*l[3]}
		if e := r.things(depth+1, at); e != api.OK {
			return e
		}
	}
	if times == 0 {
		r.s = before
	}
	return api.OK
}

func secondParse(text string) (api.Scene, api.Errno) {
	if len(text) > 20000 {
		return api.Scene{}, api.ErrLimit
	}
	r := &second{tokens: aToken.FindAllString(text, -1), seen: map[string]int{}}
	e := r.things(0, [3]int{})
	if e == api.OK && r.seen["eye"] == 0 {
		e = api.ErrCount
	}
	if e != api.OK {
		return api.Scene{}, e
	}
	return r.s, api.OK
}

// Texts that look drawn.

func pick(d *die, l ...string) string {
	return l[d.n(len(l))]
}

// drawnNumber: one that may be, in nearly all cases.
func drawnNumber(d *die) string {
	switch d.n(200) {
	case 0:
		return pick(d, "1000", "-1000", "1000.001", "-1001", "999.999", "999999999", "1234567890", "01", "1.", "1.2345", "-", "x")
	case 1, 2, 3, 4:
		return pick(d, "0", "-0", "1", "-0.001")
	}
	return strconv.FormatFloat(float64(d.n(6001)-3000)/float64([]int{1, 10, 100, 1000}[d.n(4)]*10), 'f', d.n(3)+1, 64)
}

// drawnLine: a line of the grammar, filled in.
func drawnLine(d *die, line string) string {
	var l []string
	for _, slot := range strings.Fields(line) {
		switch slot[0] {
		case 'N', 'D':
			l = append(l, drawnNumber(d))
		case 'L':
			l = append(l, pick(d, "0", "1", "65536", strconv.Itoa(d.n(65537)), strconv.Itoa(d.n(65600))))
		case 'C':
			l = append(l, strconv.Itoa(d.n(340)))
		case 'W':
			l = append(l, pick(d, "a", "äω2", "a", "äω2", "a", "äω2", "a", "äω2", "a", "äω2", "a", "äω2", "b"))
		case 'M':
			l = append(l, pick(d, "b", "cc", "d1", "ß"))
		case 'T':
			l = append(l, pick(d, "0", "1", "2", "3", "2.0", "16"))
		default:
			l = append(l, slot)
		}
	}
	return strings.Join(l, " ")
}

// drawnShape: radiuses are above 0, blocks the right way about, and axes are single ones, in most cases.
func drawnShape(d *die, kind int) string {
	a, b := d.n(900), 1+d.n(900)
	r := fmt.Sprintf("%d.%d", d.n(3), 1+d.n(9))
	at := drawnLine(d, "N N N")
	axis := pick(d, "1 0 0", "0 -2.5 0", "0 0 0.125", "0 0 0.125", "1 1 0")
	switch kind {
	case api.Ball:
		return "ball " + at + " radius " + r
	case api.Block:
		return fmt.Sprintf("block -%d %d.5 -0.%03d to %d %d 0.%d", a, a, a, b, a+1, d.n(10))
	case api.Tube:
		return "tube " + at + " along " + axis + " radius " + r
	case api.Ring:
		return "ring " + at + " up " + axis + " radius 4 " + r
	}
	return kinds[kind] + " " + drawnLine(d, grammar[kinds[kind]])
}

func drawnPart(d *die, depth int) string {
	if depth > 0 && d.n(3) > 0 {
		return pick(d, "both", "either", "less") + " { " + drawnPart(d, depth-1) + " " + drawnPart(d, depth-1) + " }"
	}
	return drawnShape(d, []int{api.Ball, api.Block, api.Tube}[d.n(3)])
}

func drawnField(d *die) string {
	w, h := 2+d.n(2), 2+d.n(2)
	if d.n(20) == 0 {
		w = d.n(10)
	}
	return fmt.Sprintf("field %d %d at %s side 0.%d high %s W ;", w, h, drawnLine(d, "N N N"), d.n(9), drawnLine(d, strings.Repeat("N ", w*h)))
}

// drawnThings: so many things, at most that deep.
func drawnThings(d *die, count, depth int) (text string) {
	for range count {
		switch n := d.n(15); {
		case n < 7:
			text += drawnShape(d, 1+d.n(6)) + " " + drawnLine(d, "W ;")
		case n < 9:
			text += "solid " + drawnPart(d, 2+d.n(9)/6+d.n(20)/19) + " " + drawnLine(d, "W ;")
		case n < 10:
			text += drawnLine(d, drawnField(d))
		case n < 11:
			text += "lamp " + drawnLine(d, grammar["lamp"])
		case n < 14 && depth > 0:
			text += drawnLine(d, "repeat T by N N N {") + " " + drawnThings(d, d.n(4), depth-1) + " }"
		case d.n(9) == 0:
			word := pick(d, "eye", "sky", "skin", "repeat", "}", "{", "#")
			text += word + " " + drawnLine(d, grammar[word])
		}
		text += pick(d, " ", "\n", "\t", " ")
	}
	return text
}

func drawnText(d *die) string {
	text := ground + "skin äω2 spread 1 2 3 mirror 4 5 6 glass 7 8 9 bend 1.25 ;\n" + drawnThings(d, d.n(8), 3+d.n(9)/8)
	if d.n(3) > 0 {
		return text
	}
	// Something is wrong with it, most likely.
	l := strings.Split(text, " ")
	i, k := d.n(len(l)), d.n(len(l))
	switch d.n(5) {
	case 0:
		l = slices.Delete(l, i, i+1)
	case 1:
		l = slices.Insert(l, i, l[k])
	case 2:
		l[i] = l[k]
	case 3:
		l[i], l[k] = l[k], l[i]
	default:
		l = l[:i]
	}
	return strings.Join(l, " ")
}

func TestParseAgainstASecondReader(t *testing.T) {
	d := die(71)
	said := map[api.Errno]int{}
	for range 20000 {
		text := drawnText(&d)
		want, e := secondParse(text)
		got, f := scene.Parse(text)
		said[e]++
		if e != f || told(got) != told(want) {
			t.Fatalf("%q: %d, not %d:\n%s\n%s", text, f, e, told(got), told(want))
		}
		if f != api.OK {
			continue
		}
		said[-1] += min(1, len(got.Shapes)*len(got.Solids))
		again, f := scene.Print(got)
		back, g := scene.Parse(again)
		if f != api.OK || g != api.OK || told(back) != told(got) {
			t.Fatalf("%q: printed: %d, %d: %q", text, f, g, again)
		}
	}
	for _, e := range []api.Errno{-1, api.OK, api.ErrZero, api.ErrLimit, api.ErrCount, api.ErrValue, api.ErrWord, api.ErrShort, api.ErrName, api.ErrDouble, api.ErrState, api.ErrDeep} {
		if said[e] < 10 {
			t.Errorf("the test tells little: %d was said %d times", e, said[e])
		}
	}
}
