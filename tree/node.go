package tree

import (
	"cmp"
	"slices"

	"rayhouse/api"
	"rayhouse/slab"
)

// few is how many things are not worth boxes of their own.
const few = 2

// node is a box around things: either few of them, told by their numbers, or those of two nodes within it.
type node struct {
	box         api.Box
	numbers     []int
	left, right *node
}

// treeOf is the tree of things that may be.
func treeOf(things []thing) *Tree {
	t := &Tree{things: things}
	order := make([]int, len(things))
	for i, x := range things {
		t.boxes = append(t.boxes, x.bounds())
		order[i] = i
	}
	if len(order) > 0 {
		t.root = t.grow(order)
	}
	return t
}

// grow is the node of the things with these numbers, of which there is at least one; it puts them in order. Each half is smaller, so that it ends.
func (t *Tree) grow(numbers []int) *node {
	box := t.around(numbers)
	if len(numbers) <= few {
		return &node{box: box, numbers: numbers}
	}
	axis := longest(box)
	slices.SortStableFunc(numbers, func(a, b int) int {
		return cmp.Compare(middle(t.boxes[a], axis), middle(t.boxes[b], axis))
	})
	half := len(numbers) / 2
	return &node{box: box, left: t.grow(numbers[:half]), right: t.grow(numbers[half:])}
}

// around is the box around the things with these numbers.
func (t *Tree) around(numbers []int) api.Box {
	box := t.boxes[numbers[0]]
	for _, i := range numbers[1:] {
		box = slab.Join(box, t.boxes[i])
	}
	return box
}

// longest is the axis along which a box is longest.
func longest(b api.Box) int {
	lo, hi := numbersOf(b.Lo), numbersOf(b.Hi)
	axis := 0
	for i := range lo {
		if hi[i]-lo[i] > hi[axis]-lo[axis] {
			axis = i
		}
	}
	return axis
}

// middle is twice where a box's middle is along an axis: enough to tell which one is ahead.
func middle(b api.Box, axis int) float64 {
	return numbersOf(b.Lo)[axis] + numbersOf(b.Hi)[axis]
}

// numbersOf are those of a vector, to be counted by an axis: 0, 1, 2.
func numbersOf(v api.Vec) [3]float64 {
	return [3]float64{v.X, v.Y, v.Z}
}

// nearest is what a ray strikes first in a node, unless what was found so far is first.
func (t *Tree) nearest(n *node, r api.Ray, sofar api.Found) api.Found {
	if n == nil {
		return sofar
	}
	near, _, ok := slab.Meets(n.box, r)
	// A box that is come to just where something was found is looked into: a thing with a lesser number may be struck there.
	if !ok || sofar.Which >= 0 && near > sofar.T {
		return sofar
	}
	for _, i := range n.numbers {
		if f, ok := t.things[i].strike(r); ok {
			f.Which = i
			sofar = first(sofar, f)
		}
	}
	return t.nearest(n.right, r, t.nearest(n.left, r, sofar))
}

// first is which of two is struck first, at the same place the one with the lesser number; a may be nothing.
func first(a, b api.Found) api.Found {
	if a.Which < 0 || b.T < a.T || b.T == a.T && b.Which < a.Which {
		return b
	}
	return a
}

// strikesNearer says whether a ray strikes something in a node nearer than so far.
func (t *Tree) strikesNearer(n *node, r api.Ray, far float64) bool {
	if n == nil {
		return false
	}
	// Not near >= far: where far is no number, nothing is nearer.
	if near, _, ok := slab.Meets(n.box, r); !ok || !(near < far) {
		return false
	}
	for _, i := range n.numbers {
		if f, ok := t.things[i].strike(r); ok && f.T < far {
			return true
		}
	}
	return t.strikesNearer(n.left, r, far) || t.strikesNearer(n.right, r, far)
}
