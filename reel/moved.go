package reel

import (
	"slices"

	"rayhouse/api"
	"rayhouse/scene"
	"rayhouse/vec"
)

// unit: so many parts of a key's numbers are one of a scene's.
const unit = 1000

// Moved is a scene in which one shape has gone on by as much as the keys say, at a time.
func Moved(s api.Scene, which int, keys []api.Key, time int) (api.Scene, api.Errno) {
	if e := scene.May(s); e != api.OK {
		return api.Scene{}, e
	}
	if which < 0 || which >= len(s.Shapes) {
		return api.Scene{}, api.ErrName
	}
	at, e := At(keys, time)
	if e != api.OK {
		return api.Scene{}, e
	}
	moved := copied(s)
	moved.Shapes[which] = shifted(s.Shapes[which], wayOf(at))
	if e := scene.May(moved); e != api.OK {
		return api.Scene{}, e
	}
	return moved, api.OK
}

// wayOf is how far a shape goes, in the scene's own measure.
func wayOf(at [3]int) api.Vec {
	return api.Vec{X: float64(at[0]) / unit, Y: float64(at[1]) / unit, Z: float64(at[2]) / unit}
}

// shifted is a shape that has gone on: its points have, what it is square to or goes along hasn't.
func shifted(x api.Shape, way api.Vec) api.Shape {
	x.A = vec.Add(x.A, way)
	if x.Kind == api.Block || x.Kind == api.Tri {
		x.B = vec.Add(x.B, way)
	}
	if x.Kind == api.Tri {
		x.C = vec.Add(x.C, way)
	}
	return x
}

// copied is a scene that shares nothing with s.
func copied(s api.Scene) api.Scene {
	c := s
	c.Shapes = slices.Clone(s.Shapes)
	c.Solids = slices.Clone(s.Solids)
	c.Fields = slices.Clone(s.Fields)
	c.Skins = slices.Clone(s.Skins)
	c.Lamps = slices.Clone(s.Lamps)
	for i, x := range s.Solids {
		c.Solids[i].Parts = slices.Clone(x.Parts)
	}
	for i, x := range s.Fields {
		c.Fields[i].High = slices.Clone(x.High)
	}
	return c
}
