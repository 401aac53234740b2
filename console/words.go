package console

import (
	"slices"
	"strings"

	"foliowright/api"
)

// mostDigits of a number that a line names.
const mostDigits = 3

// words of a text; ErrText: other than one blank is between two, or one is ahead or behind.
func words(s string) ([]string, error) {
	l := strings.Split(s, " ")
	if slices.Contains(l, "") {
		return nil, api.ErrText
	}
	return l, nil
}

// number that a word tells; false: it is none.
func number(word string) (int, bool) {
	if word == "" || len(word) > mostDigits || word != "0" && word[0] == '0' {
		return 0, false
	}
	n := 0
	for i := range len(word) {
		if word[i] < '0' || word[i] > '9' {
			return 0, false
		}
		n = 10*n + int(word[i]-'0')
	}
	return n, true
}
