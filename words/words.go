// Package words cuts texts into lines and lines into words, as shared/doc/20-plan.md says: every text that the program reads is made of them.
package words

import (
	"iter"
	"strings"
)

const (
	blank   = ' '
	lineEnd = "\n"
)

// Lines goes through the lines of a text, each without the byte that ends it, with their numbers, from 1 on.
func Lines(text string) iter.Seq2[int, string] {
	return func(yield func(number int, line string) bool) {
		rest := text // a copy, so that the same lines can be gone through again
		for number := 1; rest != ""; number++ {
			line, behind, _ := strings.Cut(rest, lineEnd)
			if !yield(number, line) {
				return
			}
			rest = behind
		}
	}
}

// Of goes through the words of a line, with the columns of their first bytes, from 1 on.
func Of(line string) iter.Seq2[int, string] {
	return func(yield func(column int, word string) bool) {
		from := 0
		for at := range len(line) + 1 {
			if at < len(line) && line[at] != blank {
				continue
			}
			if from < at && !yield(from+1, line[from:at]) {
				return
			}
			from = at + 1
		}
	}
}
