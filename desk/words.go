package desk

import (
	"math"
	"strconv"
	"strings"

	"stevedore/api"
)

// rest is words as one text.
func rest(words []string) string { return strings.Join(words, " ") }

// each is a word, and a list behind it, each with a blank ahead.
func each(word string, l []string) string {
	var b strings.Builder
	b.WriteString(word)
	for _, s := range l {
		b.WriteByte(' ')
		b.WriteString(s)
	}
	return b.String()
}

// number reads one. ErrForm is thrown, if it is none.
func number(word string) int {
	n, err := strconv.ParseInt(word, 10, 64)
	// There are more ways to write one than are read here: with a nought ahead, with a + , as -0.
	if err != nil || strconv.FormatInt(n, 10) != word {
		throw(api.ErrForm)
	}
	// Where an int is shorter, its ends are as good as what lies beyond them: no disk has so many bytes, or changes.
	return int(max(math.MinInt, min(n, math.MaxInt)))
}

// yes reads y, or n. ErrForm is thrown, if it is neither.
func yes(word string) bool {
	if word != "y" && word != "n" {
		throw(api.ErrForm)
	}
	return word == "y"
}

// allYes reads any many of y and n. ErrForm is thrown, if one is neither.
func allYes(words []string) []bool {
	l := make([]bool, len(words))
	for i, word := range words {
		l[i] = yes(word)
	}
	return l
}

// shown is a text between two " , without blanks or line feeds, so that it is a word of its line.
func shown(s string) string {
	const digits = "0123456789abcdef"
	var b strings.Builder
	b.WriteByte('"')
	for i := range len(s) {
		c := s[i]
		if c >= 33 && c <= 126 && c != '%' {
			b.WriteByte(c)
			continue
		}
		b.WriteByte('%')
		b.WriteByte(digits[c/16])
		b.WriteByte(digits[c%16])
	}
	b.WriteByte('"')
	return b.String()
}
