// Package lines has what texts of lines have in common.
package lines

import (
	"iter"
	"strconv"
	"strings"
)

const (
	// End of a line.
	End = "\n"
	// Blank stands between the words of a line.
	Blank = " "
)

// Of goes over the lines of a text by their numbers, from 0, each with its End, if it has one: the last one may have none.
func Of(text string) iter.Seq2[int, string] {
	return func(yield func(at int, line string) bool) {
		at := 0
		for line := range strings.Lines(text) {
			if !yield(at, line) {
				return
			}
			at++
		}
	}
}

// Made of words, with its End.
func Made(words ...string) string {
	return strings.Join(words, Blank) + End
}

// Number reads one from 0 to most. Written anew it is the same just if it has neither a needless 0 nor a sign.
func Number(word string, most int) (int, bool) {
	n, err := strconv.Atoi(word)
	if err != nil || n < 0 || n > most || strconv.Itoa(n) != word {
		return 0, false
	}
	return n, true
}
