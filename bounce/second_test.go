package bounce_test

import (
	"math"
	"testing"

	"rayhouse/api"
	"rayhouse/field"
	"rayhouse/shape"
	"rayhouse/solid"
)

// A second working of L2: on three numbers that are counted, with all things looked at one by one, and without any call within itself: rays are put into a row, and what they bring is added up from its end on.

type three [3]float64

func numbers(a api.Vec) three {
	return three{a.X, a.Y, a.Z}
}

func vector(a three) api.Vec {
	return v(a[0], a[1], a[2])
}

func minus(a, b three) (c three) {
	for i := range c {
		c[i] = a[i] - b[i]
	}
	return c
}

func through(a three, k float64) (c three) {
	for i := range c {
		c[i] = a[i] / k
	}
	return c
}

// behind: a and k times b.
func behind(a three, k float64, b three) (c three) {
	for i := range c {
		c[i] = a[i] + float64(b[i]*k)
	}
	return c
}

func product(a, b three) float64 {
	sum := float64(a[0] * b[0])
	sum += float64(a[1] * b[1])
	sum += float64(a[2] * b[2])
	return sum
}

func square(a, b three) (c three) {
	for i := range c {
		k, l := (i+1)%3, (i+2)%3
		c[i] = float64(a[k]*b[l]) - float64(a[l]*b[k])
	}
	return c
}

func length(a three) float64 {
	return math.Sqrt(product(a, a))
}

func cleaned(a three) three {
	for i := range a {
		if math.Abs(a[i]) < 1e-6 {
			a[i] = 0
		}
	}
	return a
}

// isFine: S1, of rays that bounced.
func isFine(from, dir three) bool {
	for i := range dir {
		if !(math.Abs(from[i]) <= 1e6 && math.Abs(dir[i]) <= 1e6) || dir[i] != 0 && math.Abs(dir[i]) < 1e-6 {
			return false
		}
	}
	return dir != three{}
}

// hit: what one thing after the other says of a ray.
type hit struct {
	t      float64
	normal func(p api.Vec) (api.Vec, api.Errno)
	skin   int
	ok     bool
}

func firstHit(s api.Scene, r api.Ray) (best hit) {
	take := func(t float64, ok bool, skin int, normal func(p api.Vec) (api.Vec, api.Errno)) {
		if ok && (!best.ok || t < best.t) {
			best = hit{t, normal, skin, true}
		}
	}
	for _, x := range s.Shapes {
		t, ok, _ := shape.Strike(x, r)
		take(t, ok, x.Skin, func(p api.Vec) (api.Vec, api.Errno) { return shape.Normal(x, p) })
	}
	for _, x := range s.Solids {
		c, ok, _ := solid.Strike(x, r)
		take(c.T, ok, x.Skin, func(p api.Vec) (api.Vec, api.Errno) { return solid.Normal(x, c, p) })
	}
	for _, x := range s.Fields {
		piece, t, ok, _ := field.Strike(x, r)
		take(t, ok, x.Skin, func(p api.Vec) (api.Vec, api.Errno) {
			pieces, _ := field.Pieces(x)
			return shape.Normal(pieces[piece], p)
		})
	}
	return best
}

// tally: how often what happened.
type tally map[string]int

// follow: a ray that is yet to be followed, or was; of is the one that it bounced of (-1: none), parts the skin's there.
type follow struct {
	from, dir three
	least     float64
	depth, of int
	parts     [3]int
	light     [3]int
}

// second: the light of r, with depth.
func second(s api.Scene, r api.Ray, depth int, seen tally) [3]int {
	row := []follow{{from: numbers(r.From), dir: numbers(r.Dir), least: r.Least, depth: depth, of: -1}}
	for i := 0; i < len(row); i++ {
		light, more := row[i].look(s, seen)
		row[i].light = light
		for _, m := range more {
			m.of, m.depth = i, row[i].depth-1
			row = append(row, m)
		}
	}
	for i := len(row) - 1; i > 0; i-- {
		for c := range 3 {
			row[row[i].of].light[c] += row[i].light[c] * row[i].parts[c] / 1000
		}
	}
	return row[0].light
}

// look: what comes of lamps or of the sky along a ray, and which rays are to be followed then.
func (f follow) look(s api.Scene, seen tally) (light [3]int, more []follow) {
	if !isFine(f.from, f.dir) {
		seen["not fine"]++
		return light, nil
	}
	h := firstHit(s, api.Ray{From: vector(f.from), Dir: vector(f.dir), Least: f.least})
	if !h.ok {
		seen["sky"]++
		return s.Sky, nil
	}
	p := behind(f.from, h.t, f.dir)
	n, e := h.normal(vector(p))
	if e != api.OK || n.X == 0 && n.Y == 0 && n.Z == 0 {
		seen["no normal"]++
		return light, nil
	}
	u, normal := through(f.dir, length(f.dir)), numbers(n)
	inside := product(normal, u) > 0
	if inside {
		seen["inside"]++
		normal = three{-n.X, -n.Y, -n.Z}
	}
	k := s.Skins[h.skin]
	for _, l := range s.Lamps {
		much := share(s, p, normal, l, seen)
		for c := range 3 {
			light[c] += l.Light[c] * much / 65536
		}
	}
	for c := range 3 {
		light[c] = light[c] * k.Spread[c] / 1000
	}
	if f.depth == 0 {
		seen["depth 0"]++
		return light, nil
	}
	mirrored := cleaned(behind(u, -1, times(normal, float64(2*product(u, normal)))))
	if k.Mirror[0]+k.Mirror[1]+k.Mirror[2] > 0 {
		seen["mirrored"]++
		more = append(more, follow{from: p, dir: mirrored, least: 0.001, parts: k.Mirror})
	}
	if k.Glass[0]+k.Glass[1]+k.Glass[2] > 0 {
		bent, ok := refracted(u, normal, float64(k.Bend), inside)
		if !ok {
			seen["can't leave"]++
			bent = mirrored
		}
		seen["glass"]++
		more = append(more, follow{from: p, dir: bent, least: 0.001, parts: k.Glass})
	}
	return light, more
}

func times(a three, k float64) (c three) {
	return behind(three{minus0, minus0, minus0}, k, a)
}

// share: how much of a lamp falls on p.
func share(s api.Scene, p, normal three, l api.Lamp, seen tally) int {
	to := cleaned(minus(numbers(l.At), p))
	if length(to) == 0 {
		seen["lamp at it"]++
		return 0
	}
	c := product(normal, through(to, length(to)))
	if c <= 0 {
		seen["lamp behind"]++
		return 0
	}
	if !isFine(p, to) {
		seen["lamp too far"]++
		return 0
	}
	if h := firstHit(s, api.Ray{From: vector(p), Dir: vector(to), Least: 0.001}); h.ok && h.t < 1 {
		seen["shade"]++
		return 0
	}
	seen["lit"]++
	if c >= 1 {
		seen["all of it"]++
		return 65536
	}
	return int(math.Floor(c * 65536))
}

// refracted: V3, and what is made of it.
func refracted(u, normal three, bend float64, inside bool) (three, bool) {
	eta := 1000 / bend
	if inside {
		eta = bend / 1000
	}
	c := -product(u, normal)
	rest := 1 - float64(float64(eta*eta)*(1-float64(c*c)))
	if rest < 0 {
		return three{}, false
	}
	along := float64(eta*c) - math.Sqrt(rest)
	return cleaned(behind(times(u, eta), along, normal)), true
}

// die: numbers that look drawn, the same each time.
type die uint64

func (d *die) n(most int) int {
	*d = *d*6364136223846793005 + 1442695040888963407
	return int(uint64(*d>>33) % uint64(most))
}

// number: from -most to most, in thousandths, or in halves.
func (d *die) number(most int) float64 {
	if d.n(4) == 0 {
		return float64(d.n(4*most+1)-2*most) / 2
	}
	return float64(d.n(2000*most+1)-1000*most) / 1000
}

func (d *die) point(most int) api.Vec {
	x, y, z := d.number(most), d.number(most), d.number(most)
	return v(x, y, z)
}

// size: above 0.
func (d *die) size() float64 {
	return float64(200+d.n(1800)) / 1000
}

func (d *die) axis() api.Vec {
	return []api.Vec{v(1, 0, 0), v(0, -1.5, 0), v(0, 0, 2)}[d.n(3)]
}

func (d *die) shape(kind int) api.Shape {
	s := api.Shape{Kind: kind, A: d.point(3), R: d.size(), Skin: d.n(4)}
	switch kind {
	case api.Block:
		s.B = v(s.A.X+d.size(), s.A.Y+d.size(), s.A.Z+s.R)
	case api.Tri:
		s.B, s.C = d.point(4), d.point(4)
	case api.Plate:
		s.B = v(d.number(1), 1, d.number(1))
	case api.Tube:
		s.B = d.axis()
	case api.Ring:
		s.B, s.Q = d.axis(), s.R/2
	}
	return s
}

func (d *die) solid() api.Solid {
	s := api.Solid{Skin: d.n(4)}
	parts := 1 + d.n(3)
	for range parts {
		s.Parts = append(s.Parts, api.Part{Shape: d.shape([]int{api.Ball, api.Block, api.Tube}[d.n(3)])})
	}
	left := 0
	for k := range parts - 1 {
		s.Parts = append(s.Parts, api.Part{Op: 1 + d.n(3), Left: left, Right: k + 1})
		left = len(s.Parts) - 1
	}
	return s
}

func (d *die) field() api.Field {
	f := api.Field{W: 2 + d.n(3), H: 2 + d.n(3), At: d.point(2), Side: d.size(), Skin: d.n(4)}
	for range f.W * f.H {
		f.High = append(f.High, d.n(2001)-1000)
	}
	return f
}

// colour: three numbers up to most; often all of it, or nothing.
func (d *die) colour(most int) (c [3]int) {
	way := d.n(5)
	for i := range c {
		c[i] = d.n(most + 1)
		switch way {
		case 0:
			c[i] = 0
		case 1:
			c[i] = most
		}
	}
	return c
}

// skin: one that only spreads, mirrors, lets through, or does all three.
func (d *die) skin(way int) api.Skin {
	k := api.Skin{Bend: 500 + d.n(2000)}
	switch way {
	case 0:
		k.Spread = d.colour(1000)
	case 1:
		k.Mirror = d.colour(1000)
	case 2:
		k.Glass = d.colour(1000)
	default:
		k.Spread, k.Mirror = d.colour(300), d.colour(300)
		for c := range k.Glass {
			k.Glass[c] = 1000 - k.Spread[c] - k.Mirror[c]
		}
	}
	return k
}

func (d *die) scene() api.Scene {
	s := api.Scene{Sky: d.colour(api.Full), Eye: eye()}
	for way := range 4 {
		s.Skins = append(s.Skins, d.skin(way))
	}
	for range d.n(9) {
		s.Shapes = append(s.Shapes, d.shape(1+d.n(6)))
	}
	for range d.n(3) {
		s.Solids = append(s.Solids, d.solid())
	}
	for range d.n(2) {
		s.Fields = append(s.Fields, d.field())
	}
	for range d.n(api.MaxLamps + 1) {
		s.Lamps = append(s.Lamps, api.Lamp{At: d.point(6), Light: d.colour(api.Full)})
	}
	return s
}

// aimed: a ray from somewhere to a point of a thing, mostly.
func (d *die) aimed(s api.Scene) api.Ray {
	from := d.point(6)
	to := d.point(3)
	if len(s.Shapes) > 0 && d.n(3) > 0 {
		x := s.Shapes[d.n(len(s.Shapes))]
		to = v(x.A.X+d.number(1)/2, x.A.Y+d.number(1)/2, x.A.Z+d.number(1)/2)
		if d.n(3) == 0 {
			from = v(x.A.X+d.number(1)/8, x.A.Y+d.number(1)/8, x.A.Z)
		}
	}
	dir := vector(cleaned(minus(numbers(to), numbers(from))))
	if dir == (api.Vec{}) {
		dir = v(0, 0, 1)
	}
	return api.Ray{From: from, Dir: dir, Least: float64(d.n(2)) / 100}
}

func TestTraceHeldAgainstASecondWorking(t *testing.T) {
	d := die(29)
	seen := tally{}
	for range 1500 {
		s := d.scene()
		w := open(t, s)
		for range 12 {
			r, depth := d.aimed(s), d.n(api.MaxDepth+1)
			want := second(s, r, depth, seen)
			got, e := w.Trace(r, depth)
			if e != api.OK || got != want {
				t.Fatalf("the light of %v with depth %d in %+v: %v, %d, not %v", r, depth, s, got, e, want)
			}
		}
	}
	for _, what := range []string{"sky", "inside", "lamp behind", "shade", "lit", "depth 0", "mirrored", "glass", "can't leave"} {
		if seen[what] < 1000 {
			t.Errorf("%s: only %d times: the test tells little: %v", what, seen[what], seen)
		}
	}
}

// most: the greater one of the sky's and all lamps' together.
func most(s api.Scene, c int) int {
	all := 0
	for _, l := range s.Lamps {
		all += l.Light[c]
	}
	return max(s.Sky[c], all)
}

func TestLightNeverGrows(t *testing.T) {
	d := die(31)
	reached := 0
	for range 1500 {
		s := d.scene()
		w := open(t, s)
		for i := range 20 {
			r, depth := d.aimed(s), i%(api.MaxDepth+1)
			got, e := w.Trace(r, depth)
			for c, n := range got {
				if e != api.OK || n < 0 || n > most(s, c) {
					t.Fatalf("the light of %v with depth %d in %+v: %v, %d: the colour %d may be %d at most", r, depth, s, got, e, c, most(s, c))
				}
				if n > 0 && n == most(s, c) {
					reached++
				}
			}
		}
	}
	if reached < 1000 {
		t.Errorf("the most is reached only %d times: the test tells little", reached)
	}
}
