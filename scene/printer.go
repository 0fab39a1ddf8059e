package scene

import (
	"math"
	"strconv"
	"strings"

	"rayhouse/api"
)

// opWords are the words of parts by how they are made; a leaf has none of its own, and no token is empty.
var opWords = [4]string{"", "both", "either", "less"}

// printer writes tokens, and knows whether all that it was to write can be told.
type printer struct {
	strings.Builder
	begun  bool // whether there is something on the line
	untold bool
}

// Print writes a scene.
func Print(s api.Scene) (string, api.Errno) {
	if e := May(s); e != api.OK {
		return "", e
	}
	var p printer
	p.scene(s)
	if p.untold {
		return "", api.ErrForm
	}
	return p.String(), api.OK
}

func (p *printer) scene(s api.Scene) {
	p.eye(s.Eye)
	p.put("sky")
	p.wholes(s.Sky)
	p.end()
	for i, k := range s.Skins {
		p.skin(k, i)
	}
	for _, l := range s.Lamps {
		p.lamp(l)
	}
	for _, x := range s.Shapes {
		p.shape(x)
		p.wear(x.Skin)
	}
	for _, x := range s.Solids {
		p.solid(x)
		p.wear(x.Skin)
	}
	for _, x := range s.Fields {
		p.field(x)
		p.wear(x.Skin)
	}
}

// put writes tokens, one blank between.
func (p *printer) put(tokens ...string) {
	for _, t := range tokens {
		if p.begun {
			p.WriteByte(' ')
		}
		p.WriteString(t)
		p.begun = true
	}
}

// end writes the end of a line.
func (p *printer) end() {
	p.put(";")
	p.WriteByte('\n')
	p.begun = false
}

// wear writes the name of a skin, and the end of a line.
func (p *printer) wear(which int) {
	p.put(nameOf(which))
	p.end()
}

func nameOf(which int) string {
	return "s" + strconv.Itoa(which)
}

// need notes what can't be told.
func (p *printer) need(told bool) {
	p.untold = p.untold || !told
}

func (p *printer) wholes(l [3]int) {
	for _, n := range l {
		p.put(strconv.Itoa(n))
	}
}

// floats writes NUMBERs.
func (p *printer) floats(l ...float64) {
	for _, x := range l {
		n, ok := thousandths(x)
		p.need(ok)
		p.put(decimal(n))
	}
}

func (p *printer) vec(v api.Vec) {
	p.floats(v.X, v.Y, v.Z)
}

// thousandths are so many that x is just what the reader makes of them; false: there are none, or too many.
func thousandths(x float64) (n int, ok bool) {
	n = int(math.Round(float64(x * unit)))
	if beyond(n) || float64(n)/unit != x {
		return 0, false
	}
	return n, true
}

// decimal is a NUMBER of so many thousandths, with as many digits as it needs.
func decimal(n int) string {
	sign := ""
	if n < 0 {
		sign, n = "-", -n
	}
	text := sign + strconv.Itoa(n/unit)
	if n%unit == 0 {
		return text
	}
	// One ahead of the digits keeps the noughts there.
	behind := strconv.Itoa(unit + n%unit)[1:]
	return text + "." + strings.TrimRight(behind, "0")
}

func (p *printer) eye(e api.Eye) {
	p.put("eye")
	p.vec(e.At)
	p.put("to")
	p.vec(e.To)
	p.put("up")
	p.vec(e.Up)
	p.put("wide")
	p.floats(e.Wide)
	p.end()
}

func (p *printer) skin(k api.Skin, which int) {
	p.put("skin", nameOf(which), "spread")
	p.wholes(k.Spread)
	p.put("mirror")
	p.wholes(k.Mirror)
	p.put("glass")
	p.wholes(k.Glass)
	p.put("bend", decimal(k.Bend))
	p.end()
}

func (p *printer) lamp(l api.Lamp) {
	p.put("lamp")
	p.vec(l.At)
	p.put("light")
	p.wholes(l.Light)
	p.end()
}

// shape writes a shape without its skin, and notes whether anything of it was left out.
func (p *printer) shape(s api.Shape) {
	told := api.Shape{Kind: s.Kind, A: s.A, Skin: s.Skin}
	switch s.Kind {
	case api.Ball:
		told.R = s.R
		p.put("ball")
		p.vec(s.A)
		p.put("radius")
		p.floats(s.R)
	case api.Block:
		told.B = s.B
		p.put("block")
		p.vec(s.A)
		p.put("to")
		p.vec(s.B)
	case api.Tri:
		told.B, told.C = s.B, s.C
		p.put("tri")
		p.vec(s.A)
		p.put(",")
		p.vec(s.B)
		p.put(",")
		p.vec(s.C)
	case api.Plate:
		told.B, told.R = s.B, s.R
		p.round("plate", "up", s)
	case api.Tube:
		told.B, told.R = s.B, s.R
		p.round("tube", "along", s)
	case api.Ring:
		told.B, told.R, told.Q = s.B, s.R, s.Q
		p.round("ring", "up", s)
		p.floats(s.Q)
	}
	p.need(told == s)
}

// round writes what a plate, a tube and a ring have in common.
func (p *printer) round(word, toward string, s api.Shape) {
	p.put(word)
	p.vec(s.A)
	p.put(toward)
	p.vec(s.B)
	p.put("radius")
	p.floats(s.R)
}

func (p *printer) solid(s api.Solid) {
	p.put("solid")
	// Only of parts that are numbered so can the last one be gone through: others may be in one another over and over.
	if !asRead(s.Parts) {
		p.need(false)
		return
	}
	p.part(s.Parts, len(s.Parts)-1)
}

// part writes one of the parts, with all that it is made of.
func (p *printer) part(parts []api.Part, which int) {
	x := parts[which]
	if x.Op == api.Leaf {
		p.shape(x.Shape)
		return
	}
	p.put(opWords[x.Op], "{")
	p.part(parts, x.Left)
	p.part(parts, x.Right)
	p.put("}")
}

// asRead says whether parts are as the reader makes them: of each part first all of its left one, then all of its right one, then itself; so that each but the last is in one other.
func asRead(parts []api.Part) bool {
	sizes := make([]int, len(parts))
	depths := make([]int, len(parts))
	for i, x := range parts {
		if !bare(x) {
			return false
		}
		sizes[i] = 1
		if x.Op == api.Leaf {
			continue
		}
		if x.Right != i-1 || x.Left != i-1-sizes[i-1] {
			return false
		}
		sizes[i] += sizes[x.Left] + sizes[x.Right]
		depths[i] = 1 + max(depths[x.Left], depths[x.Right])
	}
	last := len(parts) - 1
	return sizes[last] == len(parts) && depths[last] <= api.MaxNest
}

// bare says whether a part has nothing that a text doesn't tell of it.
func bare(x api.Part) bool {
	if x.Op == api.Leaf {
		return x.Left == 0 && x.Right == 0 && x.Shape.Skin == 0
	}
	return x.Shape == api.Shape{}
}

func (p *printer) field(f api.Field) {
	p.put("field", strconv.Itoa(f.W), strconv.Itoa(f.H), "at")
	p.vec(f.At)
	p.put("side")
	p.floats(f.Side)
	p.put("high")
	for _, n := range f.High {
		p.put(decimal(n))
	}
}
