package scene

import "rayhouse/api"

// reader goes through tokens, and makes a scene of them.
type reader struct {
	tokens     []string
	at         int // which token is next
	scene      api.Scene
	names      []string // of the skins
	eyes, skys int      // how many were told
	open       int      // braces of repeats
	shift      [3]int   // of all points, in thousandths
	parts      []api.Part
	openParts  int // braces of parts
}

// fault is what the reader gives up with.
type fault api.Errno

// Parse reads a scene.
func Parse(text string) (api.Scene, api.Errno) {
	if len(text) > api.MaxText {
		return api.Scene{}, api.ErrLimit
	}
	return read(&reader{tokens: tokens(text)})
}

// read is the scene, or the fault that the reader gave up with.
func read(r *reader) (s api.Scene, e api.Errno) {
	defer func() {
		given := recover()
		if given == nil {
			return
		}
		f, ok := given.(fault)
		if !ok {
			// No fault of the text: it isn't to be taken for one.
			panic(given)
		}
		s, e = api.Scene{}, api.Errno(f)
	}()
	r.all()
	return r.scene, api.OK
}

// all reads things to the end.
func (r *reader) all() {
	r.things()
	if r.at < len(r.tokens) {
		r.giveUp(api.ErrWord)
	}
	if r.eyes == 0 {
		r.giveUp(api.ErrCount)
	}
}

// things reads things, up to a } that is none of theirs, or to the end.
func (r *reader) things() {
	for r.at < len(r.tokens) && r.tokens[r.at] != "}" {
		r.thing()
	}
}

// thing reads one.
func (r *reader) thing() {
	word := r.next()
	for _, t := range tellers() {
		if t.word == word {
			t.tell(r)
			return
		}
	}
	for _, m := range makers() {
		if m.word == word {
			r.keepShape(m.shape(r))
			return
		}
	}
	r.giveUp(api.ErrWord)
}

func (r *reader) giveUp(e api.Errno) {
	panic(fault(e))
}

// must gives up, unless all is well.
func (r *reader) must(e api.Errno) {
	if e != api.OK {
		r.giveUp(e)
	}
}

// room gives up, if there are as many of something as there may be.
func (r *reader) room(count, most int) {
	if count >= most {
		r.giveUp(api.ErrLimit)
	}
}

// next is the next token.
func (r *reader) next() string {
	if r.at == len(r.tokens) {
		r.giveUp(api.ErrShort)
	}
	r.at++
	return r.tokens[r.at-1]
}

// ask reads a token that stands there by itself.
func (r *reader) ask(token string) {
	if r.next() != token {
		r.giveUp(api.ErrWord)
	}
}

// brace reads a {, if not too many are open.
func (r *reader) brace(open int) {
	r.ask("{")
	if open == api.MaxNest {
		r.giveUp(api.ErrDeep)
	}
}

// name reads a NAME.
func (r *reader) name() string {
	token := r.next()
	if !isName(token) {
		r.giveUp(api.ErrWord)
	}
	return token
}

// whole reads a WHOLE from 0 to most.
func (r *reader) whole(most int) int {
	n, ok := wholeOf(r.next())
	if !ok {
		r.giveUp(api.ErrWord)
	}
	if n < 0 || n > most {
		r.giveUp(api.ErrValue)
	}
	return n
}

// colours reads three.
func (r *reader) colours(most int) (c [3]int) {
	for i := range c {
		c[i] = r.whole(most)
	}
	return c
}

// number reads a NUMBER, in thousandths.
func (r *reader) number() int {
	n, ok := numberOf(r.next())
	if !ok {
		r.giveUp(api.ErrWord)
	}
	if beyond(n) {
		r.giveUp(api.ErrLimit)
	}
	return n
}

// count reads a NUMBER that has no part of a whole, from 0 to most.
func (r *reader) count(most int) int {
	n := r.number()
	if n%unit != 0 {
		r.giveUp(api.ErrWord)
	}
	if n < 0 || n > most*unit {
		r.giveUp(api.ErrValue)
	}
	return n / unit
}

// float reads a NUMBER.
func (r *reader) float() float64 {
	return float64(r.number()) / unit
}

// three reads three NUMBERs, in thousandths.
func (r *reader) three() (n [3]int) {
	for i := range n {
		n[i] = r.number()
	}
	return n
}

// direction reads three NUMBERs that no repeat shifts.
func (r *reader) direction() api.Vec {
	return vecOf(r.three())
}

// point reads three NUMBERs that are shifted.
func (r *reader) point() api.Vec {
	n := r.three()
	for i := range n {
		n[i] += r.shift[i]
		if beyond(n[i]) {
			r.giveUp(api.ErrLimit)
		}
	}
	return vecOf(n)
}

// vecOf is a vector of so many thousandths.
func vecOf(n [3]int) api.Vec {
	return api.Vec{X: float64(n[0]) / unit, Y: float64(n[1]) / unit, Z: float64(n[2]) / unit}
}
