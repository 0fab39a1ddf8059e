// Package turn: where points go when things are turned and moved: see the document's chapter.
package turn

import (
	"rayhouse/api"
	"rayhouse/vec"
)

// Fine says whether all its numbers are.
func Fine(t api.Turn) bool {
	return vec.Fine(t.M[0]) && vec.Fine(t.M[1]) && vec.Fine(t.M[2]) && vec.Fine(t.T)
}

// Same leaves all as it is.
func Same() api.Turn {
	return Shift(api.Vec{})
}

// Shift moves by v.
func Shift(v api.Vec) api.Turn {
	return api.Turn{M: [3]api.Vec{{X: 1}, {Y: 1}, {Z: 1}}, T: v}
}

// Quarter turns about an axis (0, 1, 2) by so many quarters.
func Quarter(axis, times int) (api.Turn, api.Errno) {
	if axis < 0 || axis > 2 {
		return api.Turn{}, api.ErrKind
	}
	cosines := [4]float64{1, 0, -1, 0}
	sines := [4]float64{0, 1, 0, -1}
	// The last two bits are times modulo 4, also below 0.
	k := times & 3
	u := (axis + 1) % 3
	v := (u + 1) % 3
	var rows [3][3]float64
	rows[axis][axis] = 1
	rows[u][u] = cosines[k]
	// Half a turn on stands the sine with its sign turned: a minus would give a nought a sign.
	rows[u][v] = sines[(k+2)&3]
	rows[v][u] = sines[k]
	rows[v][v] = cosines[k]
	var t api.Turn
	for i, row := range rows {
		t.M[i] = api.Vec{X: row[0], Y: row[1], Z: row[2]}
	}
	return t, api.OK
}

// Dir is where a direction goes.
func Dir(t api.Turn, d api.Vec) api.Vec {
	return api.Vec{X: vec.Dot(t.M[0], d), Y: vec.Dot(t.M[1], d), Z: vec.Dot(t.M[2], d)}
}

// Point is where a point goes.
func Point(t api.Turn, p api.Vec) api.Vec {
	return vec.Add(Dir(t, p), t.T)
}

// Then is first a, then b.
func Then(a, b api.Turn) api.Turn {
	columns := across(a.M)
	t := api.Turn{T: Point(b, a.T)}
	for i, row := range b.M {
		t.M[i] = api.Vec{X: vec.Dot(row, columns[0]), Y: vec.Dot(row, columns[1]), Z: vec.Dot(row, columns[2])}
	}
	return t
}

// across makes rows of the columns.
func across(m [3]api.Vec) [3]api.Vec {
	return [3]api.Vec{
		{X: m[0].X, Y: m[1].X, Z: m[2].X},
		{X: m[0].Y, Y: m[1].Y, Z: m[2].Y},
		{X: m[0].Z, Y: m[1].Z, Z: m[2].Z},
	}
}

// Back undoes a turn.
func Back(t api.Turn) (api.Turn, api.Errno) {
	if !Fine(t) {
		return api.Turn{}, api.ErrReach
	}
	a := vec.Cross(t.M[1], t.M[2])
	b := vec.Cross(t.M[2], t.M[0])
	c := vec.Cross(t.M[0], t.M[1])
	det := vec.Dot(t.M[0], a)
	if det == 0 {
		return api.Turn{}, api.ErrZero
	}
	back := api.Turn{M: across([3]api.Vec{vec.Over(a, det), vec.Over(b, det), vec.Over(c, det)})}
	back.T = vec.Scale(Dir(back, t.T), -1)
	return back, api.OK
}

// Box is around where a box's corners go.
func Box(t api.Turn, b api.Box) api.Box {
	first := Point(t, corner(b, 0))
	around := api.Box{Lo: first, Hi: first}
	for k := range 8 {
		p := Point(t, corner(b, k))
		around.Lo = least(around.Lo, p)
		around.Hi = most(around.Hi, p)
	}
	return around
}

// corner is the k-th of a box: its bits say where Hi's number stands.
func corner(b api.Box, k int) api.Vec {
	p := b.Lo
	if k&1 != 0 {
		p.X = b.Hi.X
	}
	if k&2 != 0 {
		p.Y = b.Hi.Y
	}
	if k&4 != 0 {
		p.Z = b.Hi.Z
	}
	return p
}

// least takes what of p is less. (The language's own min would set -0 ahead of 0, where the first is to stay.)
func least(so, p api.Vec) api.Vec {
	if p.X < so.X {
		so.X = p.X
	}
	if p.Y < so.Y {
		so.Y = p.Y
	}
	if p.Z < so.Z {
		so.Z = p.Z
	}
	return so
}

// most takes what of p is more; of numbers that are the same the first stays.
func most(so, p api.Vec) api.Vec {
	if p.X > so.X {
		so.X = p.X
	}
	if p.Y > so.Y {
		so.Y = p.Y
	}
	if p.Z > so.Z {
		so.Z = p.Z
	}
	return so
}
