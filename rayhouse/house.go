package rayhouse

import (
	"strings"

	"rayhouse/api"
	"rayhouse/bounce"
	"rayhouse/film"
	"rayhouse/pict"
	"rayhouse/scene"
	"rayhouse/tree"
	"rayhouse/work"
)

const (
	colours = 3
	// unit: so many parts of a line's numbers are one of a scene's.
	unit = 1000
	// mostFar: of how far away a thing is told to be.
	mostFar = 1e15
	// No film hangs on how many workers make it, or on their tiles: both are just to be quick.
	workers = api.MaxWork
	tile    = api.MaxTile / 2
)

// house is what a session has come to: all of its answers, and what the next line is asked of.
type house struct {
	strings.Builder
	stage *stage    // nil: there is no scene
	film  *api.Film // nil: there is none
}

// stage is a scene, with what rays are followed through.
type stage struct {
	scene  api.Scene
	things *tree.Tree
	world  *bounce.World
}

// answer answers a line, or the scene that it begins: what is left are the lines behind.
func (h *house) answer(lines []string) (behind []string) {
	first, behind := lines[0], lines[1:]
	if first != sceneBegin {
		h.obey(first)
		return behind
	}
	text, behind := sceneOf(behind)
	h.tellFault(h.take(text))
	return behind
}

// take takes the scene of a text; where it is refused, all stays as it was.
func (h *house) take(text string) api.Errno {
	s, e := scene.Parse(text)
	if e != api.OK {
		return e
	}
	// Of a scene that was read neither is refused.
	things, _ := tree.Build(s.Shapes, s.Solids, s.Fields)
	world, _ := bounce.Open(s)
	h.stage, h.film = &stage{scene: s, things: things, world: world}, nil
	return h.done()
}

// obey does what a line asks for.
func (h *house) obey(line string) {
	o, numbers, ok := orderOf(line)
	if !ok {
		h.tell("bad")
		return
	}
	if h.stage == nil || o.film && h.film == nil {
		h.tellFault(api.ErrState)
		return
	}
	h.tellFault(o.do(h, numbers))
}

func (h *house) tell(line string) {
	h.WriteString(line + lineEnd)
}

// tellFault tells why something was not done; what was done has told its answer itself.
func (h *house) tellFault(e api.Errno) {
	if e != api.OK {
		h.tell("error " + told(int(e)))
	}
}

// done tells that something is as it was to be.
func (h *house) done() api.Errno {
	h.tell("ok")
	return api.OK
}

func (h *house) show([]int) api.Errno {
	text, e := scene.Print(h.stage.scene)
	h.WriteString(text)
	return e
}

func (h *house) hit(n []int) api.Errno {
	f, e := h.stage.things.Nearest(rayOf(n))
	if e != api.OK {
		return e
	}
	if f.Which < 0 {
		h.tell("none")
		return api.OK
	}
	h.tell("thing " + told(f.Which, f.Piece, thousandths(f.T)))
	return api.OK
}

// rayOf is the ray of a line's first six numbers.
func rayOf(n []int) api.Ray {
	return api.Ray{From: pointOf(n), Dir: pointOf(n[3:])}
}

func pointOf(n []int) api.Vec {
	return api.Vec{X: float64(n[0]) / unit, Y: float64(n[1]) / unit, Z: float64(n[2]) / unit}
}

// thousandths is how far away something is, cut off.
func thousandths(t float64) int {
	return int(min(float64(t*unit), mostFar))
}

func (h *house) trace(n []int) api.Errno {
	light, e := h.stage.world.Trace(rayOf(n), n[6])
	if e != api.OK {
		return e
	}
	h.tell(told(light[:]...))
	return api.OK
}

func (h *house) shoot(n []int) api.Errno {
	f, e := work.Shoot(h.stage.scene, n[0], n[1], 0, n[2], n[3], workers, tile)
	if e != api.OK {
		return e
	}
	h.film = &f
	return h.done()
}

func (h *house) more(n []int) api.Errno {
	// All pixels have as many shots: those from the first one on.
	next := h.film.Shots[0]
	f, e := work.Shoot(h.stage.scene, h.film.W, h.film.H, next, next+n[0], n[1], workers, tile)
	if e != api.OK {
		return e
	}
	f, e = film.Merge(*h.film, f)
	if e != api.OK {
		return e
	}
	h.film = &f
	return h.done()
}

func (h *house) sum([]int) api.Errno {
	var sums [colours + 1]int
	for i, n := range h.film.Light {
		sums[i%colours] += n
	}
	for _, n := range h.film.Shots {
		sums[colours] += n
	}
	h.tell(told(sums[:]...))
	return api.OK
}

func (h *house) text(n []int) api.Errno {
	p, e := film.Tone(*h.film, n[0])
	if e != api.OK {
		return e
	}
	text, e := pict.Text(p)
	h.WriteString(text)
	return e
}

func (h *house) pack(n []int) api.Errno {
	p, e := film.Tone(*h.film, n[0])
	if e != api.OK {
		return e
	}
	packed, e := pict.Pack(p)
	if e != api.OK {
		return e
	}
	h.tell(told(len(packed)))
	return api.OK
}
