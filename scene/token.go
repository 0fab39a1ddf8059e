package scene

import (
	"strings"

	"rayhouse/api"
)

const (
	unit      = 1000 // thousandths of one
	unitZeros = 3    // digits behind the point
	maxDigits = 9    // of a number, ahead of the point
)

// tokens cuts a text up. A rune that stands nowhere is a token of its own, like none that is ever asked for.
func tokens(text string) []string {
	var all []string
	from := -1 // where the word begins that is being gone through
	for i, c := range text {
		if inWord(c) {
			if from < 0 {
				from = i
			}
			continue
		}
		if from >= 0 {
			all = append(all, text[from:i])
			from = -1
		}
		if !between(c) {
			all = append(all, string(c))
		}
	}
	if from >= 0 {
		all = append(all, text[from:])
	}
	return all
}

func inWord(c rune) bool {
	return isLetter(c) || isDigit(c) || c == '.' || c == '-'
}

// between says whether a rune stands between tokens; a carriage return doesn't.
func between(c rune) bool {
	return c == ' ' || c == '\t' || c == '\n'
}

func isLetter(c rune) bool {
	return c >= 'a' && c <= 'z' || c >= 'ß' && c <= 'ÿ' && c != '÷' || c >= 'α' && c <= 'ω'
}

func isDigit(c rune) bool {
	return c >= '0' && c <= '9'
}

// isName says whether a token is a NAME.
func isName(token string) bool {
	count := 0
	for _, c := range token {
		if !isLetter(c) && (count == 0 || !isDigit(c)) {
			return false
		}
		count++
	}
	return count >= 1 && count <= api.MaxName
}

// digits is the number that so many digits are, or fewer, but one at least.
func digits(text string, most int) (n int, ok bool) {
	if len(text) < 1 || len(text) > most {
		return 0, false
	}
	for _, c := range text {
		if !isDigit(c) {
			return 0, false
		}
		n = 10*n + int(c-'0')
	}
	return n, true
}

// plain is the number of digits without a nought ahead of others.
func plain(text string) (n int, ok bool) {
	if len(text) > 1 && text[0] == '0' {
		return 0, false
	}
	return digits(text, maxDigits)
}

// wholeOf is a WHOLE.
func wholeOf(token string) (n int, ok bool) {
	rest, below := strings.CutPrefix(token, "-")
	n, ok = plain(rest)
	if !ok || below && n == 0 {
		return 0, false
	}
	if below {
		n = -n
	}
	return n, true
}

// numberOf is a NUMBER, in thousandths.
func numberOf(token string) (n int, ok bool) {
	rest, below := strings.CutPrefix(token, "-")
	ahead, behind, pointed := strings.Cut(rest, ".")
	n, ok = plain(ahead)
	if !ok {
		return 0, false
	}
	n *= unit
	if pointed {
		part, ok := digits(behind, unitZeros)
		if !ok {
			return 0, false
		}
		for range unitZeros - len(behind) {
			part *= 10
		}
		n += part
	}
	if below {
		n = -n
	}
	return n, true
}

// beyond says whether so many thousandths are too many, either way.
func beyond(n int) bool {
	return n < -api.MaxWhole || n > api.MaxWhole
}
