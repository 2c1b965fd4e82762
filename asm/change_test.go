package asm

import (
	"slices"
	"strings"
	"testing"

	"linchpin/api"
)

// candidates are words that stand in some places of lines, or nearly so.
var candidates = []string{
	"object", "section", "bytes", "word", "space", "here", "rel", "def", "main", "label", "common", "ref", "group", "init", "last", "line", "inline", "var", "depth", "convert", "piece", "by",
	"nop", "jump", "set", "call", "return", "r1,", "r16", "@begin", "@end", "@", "@none", "r@end", "@x",
	"code", "data", "zero", "tls", "tlszero", "keep", "local", "global", "weak", "default", "protected", "hidden", "addr", "low", "diff", "module", "reg", "stack", "sym",
	"0", "1", "8", "16", "-8", "-1", "-0", "01", "4", "1048576", "1048577", "9223372036854775807", "9223372036854775808", "-9223372036854775808", "1048568",
	"text", "more", "f", "g", "V1", "V2", "x", "y", "d", "c", "g1", "none", "begin", "end", "00", "0g", "ff00", "0A", "000", "#", "#x", "a-b", "\r", "\x00", "\xff", strings.Repeat("a", 64), strings.Repeat("0", 64), strings.Repeat("a", 65),
}

// parts returns the words of a line and what is around them.
func parts(line string) []string {
	var l []string
	at := 0
	for _, w := range modelWord.FindAllStringIndex(line, -1) {
		l = append(l, line[at:w[0]], line[w[0]:w[1]])
		at = w[1]
	}
	return append(l, line[at:])
}

// with returns a copy of a list with an element replaced by others.
func with(l []string, i int, by ...string) []string {
	return slices.Concat(l[:i], by, l[i+1:])
}

// tally counts results by their errors.
type tally map[api.Errno]int

// of checks a text and counts its result.
func (n tally) of(t *testing.T, lines []string) {
	t.Helper()
	_, e, _ := check(t, strings.Join(lines, "\n"))
	n[e]++
}

// atLeast requires that there are so many results with each error.
func (n tally) atLeast(t *testing.T, least int, errors ...api.Errno) {
	t.Helper()
	for _, e := range errors {
		if n[e] < least {
			t.Errorf("error %d: only %d", e, n[e])
		}
	}
}

// P11.1: every word replaced by others, taken away, doubled, and joined with the next one.
func TestEveryWord(t *testing.T) {
	t.Parallel()
	n := tally{}
	lines := strings.Split(whole, "\n")
	for i, line := range lines {
		p := parts(line)
		for k := 1; k < len(p); k += 2 {
			change := func(by ...string) {
				n.of(t, with(lines, i, strings.Join(with(p, k, by...), "")))
			}
			for _, w := range candidates {
				change(w)
			}
			for _, w := range []string{"keep", "V1", "0", "text", "#"} {
				change(p[k], " ", w)
				change(w, "\t", p[k])
			}
			change()
			change(p[k], " ", p[k])
			change(p[k][1:])
			change(p[k][:len(p[k])-1])
			change(strings.ToUpper(p[k]))
			n.of(t, with(lines, i, strings.Join(with(p, k-1), "")))
			n.of(t, with(lines, i, strings.Join(with(p, k+1), "")))
		}
	}
	n.atLeast(t, 20, api.OK, api.ErrArg, api.ErrForm, api.ErrName, api.ErrTwice)
	n.atLeast(t, 3, api.ErrFull, api.ErrRange)
}

// P11.1: every byte of lines replaced by others, or taken away.
func TestEveryByte(t *testing.T) {
	t.Parallel()
	n := tally{}
	lines := strings.Split(whole, "\n")
	for i, line := range lines {
		if strings.HasPrefix(line, "convert") {
			line = line[:20]
		}
		for k := range line {
			for _, b := range []string{"", " ", "\t", "\n", "#", "@", "0", "-", "r", "\x00", "\xe4", ",", line[k:k+1] + " ", "_"} {
				n.of(t, with(lines, i, lines[i][:k]+b+lines[i][k+1:]))
			}
		}
	}
	n.atLeast(t, 50, api.OK, api.ErrArg, api.ErrForm, api.ErrName)
}

// P11.1: lines taken away, doubled, moved, exchanged, and put into all places.
func TestEveryLine(t *testing.T) {
	t.Parallel()
	n := tally{}
	lines := strings.Split(whole, "\n")
	for i, line := range lines {
		n.of(t, with(lines, i))
		n.of(t, with(lines, i, line, line))
		n.of(t, lines[:i])
		n.of(t, append([]string{"object o"}, lines[i:]...))
		for k := range lines {
			moved := with(lines, i)
			n.of(t, slices.Insert(moved, min(k, len(moved)), line))
			swapped := slices.Clone(lines)
			swapped[i], swapped[k] = swapped[k], swapped[i]
			n.of(t, swapped)
		}
		for _, more := range []string{
			"odd", "nop", "jump @begin", "jump @end", "jump @x", "call @end", "here begin", "here x", "here end", "bytes 01", "bytes 0102030405060708", "word 3", "space 0", "space 3", "space 1048576", "space 1048500", "object b",
			"section s code 8", "section text data 8", "section u data 8 keep", "section s odd 8", "rel call 0 f V1", "rel word 0 d", "rel word 0 none", "label global default code 0 f V1", "label global default code 0 h", "label local default data 0 h", "ref weak default code x V2", "ref weak default code z",
			"common default 8 8 c", "group g3 more", "group g3 more none", "group g2 more", "init 0 f V1", "init 0 none", "line text 16 9 z", "line more 0 1 z", "inline more 0 8 1 z z", "var more 0 8 reg 1 z", "depth more 0 8 0", "convert data 00", "piece 1 1 20", "piece 1 1 0", "by g", "by f V2", "by none", "by",
			"convert data " + strings.Repeat("00", 32), "convert none " + strings.Repeat("00", 32),
		} {
			n.of(t, slices.Insert(slices.Clone(lines), i, more))
		}
	}
	n.atLeast(t, 50, api.OK, api.ErrArg, api.ErrForm, api.ErrName, api.ErrTwice, api.ErrFull)
}
