package asm

import (
	"slices"
	"strconv"
	"strings"

	"linchpin/api"
	"linchpin/digest"
)

const blanks = " \t" // they stand between words

// words are the words of a line, which are read one after the other. What has been read is of no use if the line turns out to be bad.
type words struct {
	line string // all of it
	rest string // what is behind the last word that was read
	bad  bool   // it is not well formed
}

// areBlank reports whether the line has no influence.
func (l *words) areBlank() bool {
	return l.ended() || strings.HasPrefix(strings.TrimLeft(l.rest, blanks), "#")
}

// ended reports whether there are no more words.
func (l *words) ended() bool {
	return strings.TrimLeft(l.rest, blanks) == ""
}

// need makes the line bad if something is not as it needs to be.
func (l *words) need(is bool) {
	l.bad = l.bad || !is
}

// word reads a word.
func (l *words) word() string {
	s := strings.TrimLeft(l.rest, blanks)
	end := strings.IndexAny(s, blanks)
	if end < 0 {
		end = len(s)
	}
	l.need(end > 0)
	l.rest = s[end:]
	return s[:end]
}

// number reads a number.
func (l *words) number() int {
	word := l.word()
	n, err := strconv.Atoi(word)
	// A number is written in one way only: Atoi also accepts a plus sign and zeros in front.
	l.need(err == nil && strconv.Itoa(n) == word)
	return n
}

// oneOf reads one of some words, and returns its index.
func (l *words) oneOf(words []string) int {
	i := slices.Index(words, l.word())
	l.need(i >= 0)
	return i
}

// hex reads bytes, at least one, since no word is empty.
func (l *words) hex() string {
	s, ok := digest.Unhex(l.word())
	l.need(ok)
	return s
}

// label reads a label.
func (l *words) label() string {
	word := l.word()
	l.need(isLabel(word))
	return word
}

// sym reads the name of a symbol and the version that follows unless it is empty. They are at the end of a line.
func (l *words) sym() api.SymName {
	s := api.SymName{Name: l.word()}
	if !l.ended() {
		s.Version = l.word()
	}
	return s
}

// file reads the name of a file, which may contain blanks: all that is left but the one behind the last word.
func (l *words) file() string {
	if len(l.rest) < 2 {
		l.need(false)
		return ""
	}
	s := l.rest[1:]
	l.rest = ""
	return s
}

// all reads everything that is left, and returns the whole line.
func (l *words) all() string {
	l.rest = ""
	return l.line
}

// isLabel reports whether a string is a label.
func isLabel(s string) bool {
	for i := range len(s) {
		switch c := s[i]; {
		case c >= 'a' && c <= 'z', c >= 'A' && c <= 'Z', c >= '0' && c <= '9', c == '_':
		default:
			return false
		}
	}
	return s != ""
}
