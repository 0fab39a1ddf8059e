package work

import (
	"bytes"

	"rayhouse/api"
	"rayhouse/film"
)

// A saved film: the mark, a byte for each side, the numbers, the check.
const (
	mark       = "RHF1"
	headBytes  = len(mark) + 2
	lightBytes = 6
	shotsBytes = 3
	checkBytes = 4
)

const (
	checkStart = 1
	checkTimes = 16777619
)

// Save is a film as bytes: a head, the numbers, a check of all.
func Save(f api.Film) ([]byte, api.Errno) {
	if e := film.May(f); e != api.OK {
		return nil, e
	}
	b := make([]byte, 0, savedBytes(f))
	b = append(b, mark...)
	b = append(b, byte(f.W), byte(f.H))
	for _, n := range f.Light {
		b = appendNumber(b, n, lightBytes)
	}
	for _, n := range f.Shots {
		b = appendNumber(b, n, shotsBytes)
	}
	return appendNumber(b, check(b), checkBytes), api.OK
}

// savedBytes is how many bytes a film has when it is saved.
func savedBytes(f api.Film) int {
	return headBytes + lightBytes*len(f.Light) + shotsBytes*len(f.Shots) + checkBytes
}

// appendNumber puts a number behind b in so many bytes, the highest first.
func appendNumber(b []byte, n, size int) []byte {
	for size > 0 {
		size--
		b = append(b, byte(n>>(8*size)))
	}
	return b
}

// numberOf is the number that bytes tell, the highest first.
func numberOf(b []byte) int {
	n := 0
	for _, x := range b {
		n = n<<8 | int(x)
	}
	return n
}

// check is the sum of bytes. Each step can be undone (the factor is odd): of two rows that differ in one byte the sums are never the same.
func check(b []byte) int {
	h := uint32(checkStart)
	for _, x := range b {
		h = (h ^ uint32(x)) * checkTimes
	}
	return int(h)
}

// Load is the film of bytes.
func Load(b []byte) (api.Film, api.Errno) {
	f, e := blank(b)
	if e != api.OK {
		return api.Film{}, e
	}
	sum := len(b) - checkBytes
	if numberOf(b[sum:]) != check(b[:sum]) {
		return api.Film{}, api.ErrCheck
	}
	rest := fill(f.Light, b[headBytes:], lightBytes)
	fill(f.Shots, rest, shotsBytes)
	if e := film.May(f); e != api.OK {
		return api.Film{}, e
	}
	return f, api.OK
}

// blank is a film of noughts with the sides that bytes tell, if they are as many as such a film has.
func blank(b []byte) (api.Film, api.Errno) {
	if len(b) < headBytes {
		return api.Film{}, api.ErrShort
	}
	if !bytes.HasPrefix(b, []byte(mark)) {
		return api.Film{}, api.ErrForm
	}
	f, e := film.New(int(b[len(mark)]), int(b[len(mark)+1]))
	if e != api.OK {
		return api.Film{}, e
	}
	if len(b) < savedBytes(f) {
		return api.Film{}, api.ErrShort
	}
	if len(b) > savedBytes(f) {
		return api.Film{}, api.ErrCount
	}
	return f, api.OK
}

// fill reads numbers of so many bytes each, and gives what is behind them.
func fill(numbers []int, b []byte, size int) []byte {
	for i := range numbers {
		numbers[i] = numberOf(b[:size])
		b = b[size:]
	}
	return b
}
