package words_test

import (
	"iter"
	"slices"
	"strings"
	"testing"

	"girder/words"
)

// piece is a line with its number, or a word with its column.
type piece struct {
	at   int
	text string
}

func all(pieces iter.Seq2[int, string]) []piece {
	var l []piece
	for at, text := range pieces {
		l = append(l, piece{at, text})
	}
	return l
}

func TestLines(t *testing.T) {
	for text, want := range map[string][]piece{
		"":               nil,
		"\n":             {{1, ""}},
		"a":              {{1, "a"}},
		"a\n":            {{1, "a"}},
		"a\nb":           {{1, "a"}, {2, "b"}},
		"\n\na b \n\r\n": {{1, ""}, {2, ""}, {3, "a b "}, {4, "\r"}},
		"\x00\xff\n\t":   {{1, "\x00\xff"}, {2, "\t"}},
	} {
		if got := all(words.Lines(text)); !slices.Equal(got, want) {
			t.Errorf("%q: %v, not %v", text, got, want)
		}
	}
}

func TestWords(t *testing.T) {
	for line, want := range map[string][]piece{
		"":                      nil,
		" ":                     nil,
		"    ":                  nil,
		"a":                     {{1, "a"}},
		" a":                    {{2, "a"}},
		"a ":                    {{1, "a"}},
		"ab  c":                 {{1, "ab"}, {5, "c"}},
		"  ab c   d  ":          {{3, "ab"}, {6, "c"}, {10, "d"}},
		"a\tb \r \x00 \xff\x80": {{1, "a\tb"}, {5, "\r"}, {7, "\x00"}, {9, "\xff\x80"}},
		"é ü":                   {{1, "é"}, {4, "ü"}},
		"a\u00a0b\u2003c":       {{1, "a\u00a0b\u2003c"}},
	} {
		if got := all(words.Of(line)); !slices.Equal(got, want) {
			t.Errorf("%q: %v, not %v", line, got, want)
		}
	}
}

// A loop may be left early, and the same pieces be gone through again.
func TestLeftEarly(t *testing.T) {
	text := strings.Repeat("a b c\n", 3)
	for _, pieces := range []iter.Seq2[int, string]{words.Lines(text), words.Of("a b c")} {
		want := all(pieces)
		if len(want) != 3 {
			t.Fatal(want)
		}
		for most := 1; most <= 3; most++ {
			var got []piece
			for at, text := range pieces {
				got = append(got, piece{at, text})
				if len(got) == most {
					break
				}
			}
			if !slices.Equal(got, want[:most]) {
				t.Error(most, got)
			}
		}
	}
}
