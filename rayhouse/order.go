package rayhouse

import (
	"strconv"
	"strings"

	"rayhouse/api"
)

// mostNumber: one of seven digits.
const mostNumber = 9999999

// order is what a line asks for: a word, so many numbers behind it, and what the house does then.
type order struct {
	word    string
	numbers int
	film    bool // whether there must be a film, too
	do      func(h *house, numbers []int) api.Errno
}

func orders() []order {
	return []order{
		{"show", 0, false, (*house).show},
		{"hit", 6, false, (*house).hit},
		{"trace", 7, false, (*house).trace},
		{"shoot", 4, false, (*house).shoot},
		{"more", 2, true, (*house).more},
		{"sum", 0, true, (*house).sum},
		{"text", 1, true, (*house).text},
		{"pack", 1, true, (*house).pack},
	}
}

// orderOf is the order of a line, and its numbers; false: it is none. What is between two blanks, ahead of one or behind one is a word, too, an empty one: so none may stand there.
func orderOf(line string) (o order, numbers []int, ok bool) {
	words := strings.Split(line, " ")
	numbers, ok = wholes(words[1:])
	if !ok {
		return order{}, nil, false
	}
	for _, o := range orders() {
		if o.word == words[0] && o.numbers == len(numbers) {
			return o, numbers, true
		}
	}
	return order{}, nil, false
}

// wholes are the numbers that words tell; false: one of them tells none.
func wholes(words []string) (numbers []int, ok bool) {
	for _, w := range words {
		n, ok := whole(w)
		if !ok {
			return nil, false
		}
		numbers = append(numbers, n)
	}
	return numbers, true
}

// whole is the number that a word tells. It is one only if the number, told, is the word again: so there is no +, no nought ahead, no nought with a sign.
func whole(word string) (n int, ok bool) {
	n, wrong := strconv.Atoi(word)
	if wrong != nil || told(n) != word || n < -mostNumber || n > mostNumber {
		return 0, false
	}
	return n, true
}

// told is numbers as a text, one blank between.
func told(numbers ...int) string {
	words := make([]string, 0, len(numbers))
	for _, n := range numbers {
		words = append(words, strconv.Itoa(n))
	}
	return strings.Join(words, " ")
}
