package tree

import (
	"slices"

	"rayhouse/api"
	"rayhouse/field"
	"rayhouse/shape"
	"rayhouse/solid"
)

// thing is what a ray can strike, once it is known that it may be.
type thing interface {
	bounds() api.Box
	// strike is where a ray that may be strikes it first, and which piece of it; Which is left to the tree.
	strike(r api.Ray) (f api.Found, ok bool)
	// normal stands on the piece that was found, at a point.
	normal(f api.Found, p api.Vec) (api.Vec, api.Errno)
	skin() int
}

// gather is all things, by their numbers. They keep nothing that is the caller's.
func gather(shapes []api.Shape, solids []api.Solid, fields []api.Field) []thing {
	var all []thing
	for _, s := range shapes {
		all = append(all, single{s})
	}
	for _, s := range solids {
		all = append(all, bodyOf(s))
	}
	for _, f := range fields {
		all = append(all, groundOf(f))
	}
	return all
}

// single is a shape by itself.
type single struct {
	api.Shape
}

func (s single) bounds() api.Box {
	b, _ := shape.Bounds(s.Shape)
	return b
}

func (s single) strike(r api.Ray) (api.Found, bool) {
	t, ok, _ := shape.Strike(s.Shape, r)
	return api.Found{T: t}, ok
}

func (s single) normal(_ api.Found, p api.Vec) (api.Vec, api.Errno) {
	return shape.Normal(s.Shape, p)
}

func (s single) skin() int {
	return s.Skin
}

// body is a solid.
type body struct {
	api.Solid
}

func bodyOf(s api.Solid) body {
	s.Parts = slices.Clone(s.Parts)
	return body{s}
}

func (b body) bounds() api.Box {
	box, _ := solid.Bounds(b.Solid)
	return box
}

func (b body) strike(r api.Ray) (api.Found, bool) {
	c, ok, _ := solid.Strike(b.Solid, r)
	return api.Found{Piece: c.Leaf, Turned: c.Turned, T: c.T}, ok
}

func (b body) normal(f api.Found, p api.Vec) (api.Vec, api.Errno) {
	return solid.Normal(b.Solid, api.Cross{T: f.T, Leaf: f.Piece, Turned: f.Turned}, p)
}

func (b body) skin() int {
	return b.Skin
}

// ground is a field. Of its many pieces a ray comes to few: they are a tree of their own, in which a piece's number is a thing's.
type ground struct {
	api.Field
	pieces *Tree
}

func groundOf(f api.Field) ground {
	pieces, _ := field.Pieces(f)
	// The heights are the caller's; the pieces have them already.
	f.High = nil
	return ground{Field: f, pieces: treeOf(gather(pieces, nil, nil))}
}

func (g ground) bounds() api.Box {
	return g.pieces.root.box
}

func (g ground) strike(r api.Ray) (api.Found, bool) {
	f, _ := g.pieces.Nearest(r)
	return api.Found{Piece: f.Which, T: f.T}, f.Which >= 0
}

func (g ground) normal(f api.Found, p api.Vec) (api.Vec, api.Errno) {
	n, _, e := g.pieces.Normal(api.Found{Which: f.Piece}, p)
	return n, e
}

func (g ground) skin() int {
	return g.Skin
}
