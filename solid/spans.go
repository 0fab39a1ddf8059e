package solid

import (
	"cmp"
	"slices"

	"rayhouse/api"
	"rayhouse/shape"
)

// spans are the pieces of a ray that are within the last part. Each end of a piece is one of a leaf's, and no two touch: there are never more pieces than leaves.
func spans(parts []api.Part, r api.Ray) []api.Span {
	rows := make([][]api.Span, len(parts))
	for i, p := range parts {
		switch p.Op {
		case api.Leaf:
			rows[i] = leaf(i, p.Shape, r)
		case api.Both:
			rows[i] = both(rows[p.Left], rows[p.Right])
		case api.Either:
			rows[i] = either(rows[p.Left], rows[p.Right])
		case api.Less:
			rows[i] = less(rows[p.Left], rows[p.Right])
		}
	}
	return rows[len(parts)-1]
}

// leaf is the one piece that is within the shape of the leaf with this number, or none.
func leaf(number int, s api.Shape, r api.Ray) []api.Span {
	in, out, ok, _ := shape.Within(s, r)
	if !ok {
		return nil
	}
	return []api.Span{{In: api.Cross{T: in, Leaf: number}, Out: api.Cross{T: out, Leaf: number}}}
}

// both are the pieces that are within both.
func both(left, right []api.Span) []api.Span {
	var row []api.Span
	for _, l := range left {
		for _, r := range right {
			row = appendPiece(row, later(l.In, r.In), earlier(l.Out, r.Out))
		}
	}
	return row
}

// appendPiece lays a piece behind others, unless it has no length.
func appendPiece(row []api.Span, in, out api.Cross) []api.Span {
	if in.T < out.T {
		row = append(row, api.Span{In: in, Out: out})
	}
	return row
}

// later is the one that is farther on; the first, if they are the same.
func later(a, b api.Cross) api.Cross {
	if b.T > a.T {
		return b
	}
	return a
}

// earlier is the one that is less far on; the first, if they are the same.
func earlier(a, b api.Cross) api.Cross {
	if b.T < a.T {
		return b
	}
	return a
}

// either are the pieces that are within one of them; what touches becomes one.
func either(left, right []api.Span) []api.Span {
	all := slices.Concat(left, right)
	// Stable, so that of two that begin at the same place left's stays first.
	slices.SortStableFunc(all, func(a, b api.Span) int { return cmp.Compare(a.In.T, b.In.T) })
	var row []api.Span
	for _, s := range all {
		last := len(row) - 1
		if last < 0 || s.In.T > row[last].Out.T {
			row = append(row, s)
			continue
		}
		row[last].Out = later(row[last].Out, s.Out)
	}
	return row
}

// less are the pieces of left that are not within right.
func less(left, right []api.Span) []api.Span {
	var row []api.Span
	for _, l := range left {
		row = cutOut(row, l, right)
	}
	return row
}

// cutOut lays behind others what is left of a span when holes are cut out of it, which rise.
func cutOut(row []api.Span, s api.Span, holes []api.Span) []api.Span {
	begin := s.In
	for _, h := range holes {
		// What only touches cuts nothing.
		if h.Out.T <= begin.T || h.In.T >= s.Out.T {
			continue
		}
		row = appendPiece(row, begin, turned(h.In))
		begin = turned(h.Out)
	}
	return appendPiece(row, begin, s.Out)
}

// turned is a cross whose inside is the outside.
func turned(c api.Cross) api.Cross {
	c.Turned = !c.Turned
	return c
}
