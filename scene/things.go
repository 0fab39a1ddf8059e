package scene

import (
	"slices"

	"rayhouse/api"
	"rayhouse/field"
	"rayhouse/shape"
	"rayhouse/solid"
)

// teller is what a word tells, up to its last token.
type teller struct {
	word string
	tell func(*reader)
}

func tellers() []teller {
	return []teller{
		{"eye", (*reader).eye},
		{"sky", (*reader).sky},
		{"skin", (*reader).skin},
		{"lamp", (*reader).lamp},
		{"solid", (*reader).solid},
		{"field", (*reader).field},
		{"repeat", (*reader).repeat},
	}
}

// maker is what shape a word makes of the tokens behind it, up to the NAME; and whether it may be a part of a solid.
type maker struct {
	word  string
	body  bool
	shape func(*reader) api.Shape
}

func makers() []maker {
	return []maker{
		{"ball", true, (*reader).ball},
		{"block", true, (*reader).block},
		{"tube", true, (*reader).tube},
		{"tri", false, (*reader).tri},
		{"plate", false, (*reader).plate},
		{"ring", false, (*reader).ring},
	}
}

// outside gives up within braces.
func (r *reader) outside() {
	if r.open > 0 {
		r.giveUp(api.ErrState)
	}
}

// once gives up, if there was one already.
func (r *reader) once(told *int) {
	if *told > 0 {
		r.giveUp(api.ErrDouble)
	}
	*told++
}

func (r *reader) eye() {
	r.outside()
	r.once(&r.eyes)
	var e api.Eye
	e.At = r.point()
	r.ask("to")
	e.To = r.point()
	r.ask("up")
	e.Up = r.direction()
	r.ask("wide")
	e.Wide = r.float()
	r.ask(";")
	r.must(MayEye(e))
	r.scene.Eye = e
}

func (r *reader) sky() {
	r.outside()
	r.once(&r.skys)
	r.scene.Sky = r.colours(api.Full)
	r.ask(";")
}

func (r *reader) skin() {
	r.outside()
	r.newName()
	var k api.Skin
	r.ask("spread")
	k.Spread = r.colours(allParts)
	r.ask("mirror")
	k.Mirror = r.colours(allParts)
	r.ask("glass")
	k.Glass = r.colours(allParts)
	r.ask("bend")
	k.Bend = r.number()
	r.ask(";")
	r.must(MaySkin(k))
	r.scene.Skins = append(r.scene.Skins, k)
}

// newName reads a NAME that no skin has.
func (r *reader) newName() {
	name := r.name()
	if slices.Contains(r.names, name) {
		r.giveUp(api.ErrDouble)
	}
	r.room(len(r.names), api.MaxSkins)
	r.names = append(r.names, name)
}

// wear reads the NAME of a skin: which one it is.
func (r *reader) wear() int {
	which := slices.Index(r.names, r.name())
	if which < 0 {
		r.giveUp(api.ErrName)
	}
	return which
}

func (r *reader) lamp() {
	var l api.Lamp
	l.At = r.point()
	r.ask("light")
	l.Light = r.colours(api.Full)
	r.ask(";")
	r.room(len(r.scene.Lamps), api.MaxLamps)
	r.scene.Lamps = append(r.scene.Lamps, l)
}

// keepShape reads what is behind a shape.
func (r *reader) keepShape(s api.Shape) {
	s.Skin = r.wear()
	r.ask(";")
	r.must(shape.May(s))
	r.room(len(r.scene.Shapes), api.MaxShapes)
	r.scene.Shapes = append(r.scene.Shapes, s)
}

func (r *reader) ball() api.Shape {
	s := api.Shape{Kind: api.Ball, A: r.point()}
	r.ask("radius")
	s.R = r.float()
	return s
}

func (r *reader) block() api.Shape {
	s := api.Shape{Kind: api.Block, A: r.point()}
	r.ask("to")
	s.B = r.point()
	return s
}

func (r *reader) tri() api.Shape {
	s := api.Shape{Kind: api.Tri, A: r.point()}
	r.ask(",")
	s.B = r.point()
	r.ask(",")
	s.C = r.point()
	return s
}

// round reads what a plate, a tube and a ring have in common; the word is the one ahead of the direction.
func (r *reader) round(kind int, word string) api.Shape {
	s := api.Shape{Kind: kind, A: r.point()}
	r.ask(word)
	s.B = r.direction()
	r.ask("radius")
	s.R = r.float()
	return s
}

func (r *reader) plate() api.Shape {
	return r.round(api.Plate, "up")
}

func (r *reader) tube() api.Shape {
	return r.round(api.Tube, "along")
}

func (r *reader) ring() api.Shape {
	s := r.round(api.Ring, "up")
	s.Q = r.float()
	return s
}

func (r *reader) solid() {
	r.parts = nil
	r.part()
	s := api.Solid{Parts: r.parts, Skin: r.wear()}
	r.ask(";")
	r.must(solid.May(s))
	r.room(len(r.scene.Solids), api.MaxSolids)
	r.scene.Solids = append(r.scene.Solids, s)
}

// part reads a PART: which one it is.
func (r *reader) part() int {
	word := r.next()
	for _, m := range makers() {
		if m.word == word && m.body {
			return r.keepPart(api.Part{Shape: m.shape(r)})
		}
	}
	for op, w := range opWords {
		if w == word {
			return r.pair(op)
		}
	}
	r.giveUp(api.ErrWord)
	return 0
}

// pair reads the two parts between braces.
func (r *reader) pair(op int) int {
	r.brace(r.openParts)
	r.openParts++
	left := r.part()
	right := r.part()
	r.ask("}")
	r.openParts--
	return r.keepPart(api.Part{Op: op, Left: left, Right: right})
}

// keepPart is called at a part's last token.
func (r *reader) keepPart(p api.Part) int {
	r.room(len(r.parts), api.MaxParts)
	r.parts = append(r.parts, p)
	return len(r.parts) - 1
}

func (r *reader) field() {
	var f api.Field
	f.W = r.count(api.MaxGrid)
	f.H = r.count(api.MaxGrid)
	r.ask("at")
	f.At = r.point()
	r.ask("side")
	f.Side = r.float()
	r.ask("high")
	for range f.W * f.H {
		f.High = append(f.High, r.number())
	}
	f.Skin = r.wear()
	r.ask(";")
	r.must(field.May(f))
	r.room(len(r.scene.Fields), api.MaxFields)
	r.scene.Fields = append(r.scene.Fields, f)
}

// repeat reads what is between its braces so many times, but once at least, so that its faults are told.
func (r *reader) repeat() {
	times := r.count(api.MaxTimes)
	r.ask("by")
	step := r.three()
	r.brace(r.open)
	r.open++
	from, scene, shift := r.at, r.scene, r.shift
	time := 0
again:
	r.things()
	r.ask("}")
	time++
	if time < times {
		for i := range step {
			r.shift[i] += step[i]
		}
		r.at = from
		goto again
	}
	if times == 0 {
		r.scene = scene
	}
	r.shift = shift
	r.open--
}
