package journal

import (
	"strings"

	"linchpin/word"
)

// The sizes of a number in a file, and of the header, which consists of two numbers.
const (
	numberSize = 8
	headerSize = 2 * numberSize
)

// zero is the bytes of the number 0.
const zero = "\x00\x00\x00\x00\x00\x00\x00\x00"

// number returns the bytes of a number; every int fits into them.
func number(n int) string {
	s, _ := word.Put(zero, 0, numberSize, n)
	return s
}

// form returns the form of a row: its length and its bytes.
func form(row string) string {
	return number(len(row)) + row
}

// extent returns the offset behind the forms of rows, which stand behind the header.
func extent(rows []string) int {
	n := headerSize
	for _, row := range rows {
		n += numberSize + len(row)
	}
	return n
}

// header returns the header for so many rows, the forms of which end at the offset end.
func header(end, count int) string {
	return number(end) + number(count)
}

// whole returns the header for rows, followed by their forms.
func whole(rows []string) string {
	var b strings.Builder
	end := extent(rows)
	b.Grow(end)
	b.WriteString(header(end, len(rows)))
	for _, row := range rows {
		b.WriteString(form(row))
	}
	return b.String()
}

// parse returns the rows of a file with the bytes s, or false if it is malformed. What stands behind the end that the header names does not matter: a flush can have been interrupted before its header was written.
func parse(s string) ([]string, bool) {
	end, _ := word.Get(s, 0, numberSize, true)
	if len(s) < headerSize || end == 0 {
		return nil, true
	}
	if end < headerSize || end > len(s) {
		return nil, false
	}
	count, _ := word.Get(s, numberSize, numberSize, true)
	rows, ok := split(s[headerSize:end])
	if !ok || len(rows) != count {
		return nil, false
	}
	return rows, true
}

// split returns the rows whose forms make up s, or false if there are none that do.
func split(s string) ([]string, bool) {
	var rows []string
	for s != "" {
		n, ok := word.Get(s, 0, numberSize, true)
		// It subtracts, because numberSize + n may wrap around.
		if !ok || n < 0 || n > len(s)-numberSize {
			return nil, false
		}
		rows = append(rows, s[numberSize:numberSize+n])
		s = s[numberSize+n:]
	}
	return rows, true
}
