package bounce

import (
	"rayhouse/api"
	"rayhouse/slab"
	"rayhouse/vec"
)

const (
	// least is where rays begin to count that start on a thing: beyond where they would strike it again at once.
	least = 0.001
	// allParts is of how many a skin's parts are told; and how much Bend is where nothing bends.
	allParts = 1000
)

// light is that of a ray, which may bounce depth times more.
func (w *World) light(r api.Ray, depth int) [3]int {
	// A ray that bounced may have lost its direction.
	if slab.Fine(r) != api.OK {
		return [3]int{}
	}
	f, _ := w.things().Nearest(r)
	if f.Which < 0 {
		return w.scene.Sky
	}
	s, ok := w.spotOf(r, f)
	if !ok {
		return [3]int{}
	}
	sum := part(w.fromLamps(s), s.skin.Spread)
	if depth == 0 {
		return sum
	}
	if !isNought(s.skin.Mirror) {
		sum = together(sum, part(w.light(s.mirrored(), depth-1), s.skin.Mirror))
	}
	if !isNought(s.skin.Glass) {
		sum = together(sum, part(w.light(s.bent(), depth-1), s.skin.Glass))
	}
	return sum
}

// isNought says whether a colour is 0 in all of its numbers.
func isNought(c [3]int) bool {
	return c == [3]int{}
}

// part is what is left of light by the parts of a skin.
func part(light, parts [3]int) [3]int {
	for c := range light {
		light[c] = light[c] * parts[c] / allParts
	}
	return light
}

func together(a, b [3]int) [3]int {
	for c := range a {
		a[c] += b[c]
	}
	return a
}

// spot is where a ray strikes a thing, and how.
type spot struct {
	at api.Vec
	// ahead is where the ray goes, normal what stands on the thing there on the ray's own side: both with the length 1.
	ahead, normal api.Vec
	// inside: the ray comes from within the thing.
	inside bool
	skin   api.Skin
}

// spotOf is the one where a ray strikes what was found; false: nothing stands on it there.
func (w *World) spotOf(r api.Ray, f api.Found) (spot, bool) {
	at := vec.Add(r.From, vec.Scale(r.Dir, f.T))
	n, skin, e := w.things().Normal(f, at)
	if e != api.OK || n == (api.Vec{}) {
		return spot{}, false
	}
	s := spot{at: at, ahead: vec.Over(r.Dir, vec.Length(r.Dir)), normal: n, skin: w.scene.Skins[skin]}
	if vec.Dot(n, s.ahead) > 0 {
		s.inside = true
		s.normal = vec.Scale(n, -1)
	}
	return s, true
}

// fromLamps is what all lamps give together at a spot.
func (w *World) fromLamps(s spot) [3]int {
	var sum [3]int
	for _, l := range w.scene.Lamps {
		k := w.falls(s, l)
		for c, light := range l.Light {
			sum[c] += light * k / api.Full
		}
	}
	return sum
}

// falls is how much of a lamp's light falls on a spot: 0 to Full.
func (w *World) falls(s spot, l api.Lamp) int {
	to := vec.Clean(vec.Sub(l.At, s.at))
	length := vec.Length(to)
	if !(length > 0) {
		return 0
	}
	c := vec.Dot(s.normal, vec.Over(to, length))
	if !(c > 0) {
		return 0
	}
	between, e := w.things().Any(s.ray(to), 1)
	if between || e != api.OK {
		return 0
	}
	return min(int(c*api.Full), api.Full)
}

// ray is one from a spot on.
func (s spot) ray(dir api.Vec) api.Ray {
	return api.Ray{From: s.at, Dir: dir, Least: least}
}

// mirrored is the ray that is thrown back.
func (s spot) mirrored() api.Ray {
	return s.ray(vec.Clean(vec.Mirror(s.ahead, s.normal)))
}

// bent is the ray that goes through; where none can, it is the one that is thrown back.
func (s spot) bent() api.Ray {
	dir, ok := vec.Bend(s.ahead, s.normal, s.eta())
	if !ok {
		return s.mirrored()
	}
	return s.ray(vec.Clean(dir))
}

// eta is how much the ray is bent: the other way about, if it leaves the thing.
func (s spot) eta() float64 {
	if s.inside {
		return float64(s.skin.Bend) / allParts
	}
	return allParts / float64(s.skin.Bend)
}
