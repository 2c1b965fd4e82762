package asm

import (
	"slices"
	"strings"

	"linchpin/api"
)

// step is a part of what a line means.
type step func() api.Errno

// form reads the words of a line behind the first one, and returns what the line means if it is well formed: now is what it declares and how many bytes it adds, and later what depends on lines behind it. Each may be nil.
type form func(l *words) (now, later step)

// label is a label of a section.
type label struct {
	sec  int
	name string
}

// assembly is an object whose lines are read. The current section is the last one.
type assembly struct {
	o          api.Object
	secs       map[string]int // the indices of the sections by their names
	syms       map[api.SymName]int
	labels     map[label]int // their places
	contents   [][]byte      // of the sections, or nil if they are of no use
	converting bool          // there is a converter
}

// pending is a step that is taken when all lines have been read, and the number of its line.
type pending struct {
	take step
	line int
}

// read reads all lines, and returns the first error with the number of its line.
func (a *assembly) read(s string) (api.Errno, int) {
	steps, e, line := a.scan(s)
	if e == api.OK && len(a.o.Secs) <= api.MaxSecs {
		a.makeRoom()
	}
	for _, p := range steps {
		if e := p.take(); e != api.OK {
			return e, p.line
		}
	}
	return e, line
}

// scan takes the steps of all lines that are taken at once, and returns the first error of one with the number of its line, and the steps that are taken later of the lines before it. It goes on behind an error, because lines before it may refer to what lines behind it declare.
func (a *assembly) scan(s string) (steps []pending, first api.Errno, line int) {
	forms := a.forms()
	n, begun := 0, false
	for text := range strings.SplitSeq(s, "\n") {
		n++
		l := words{line: text, rest: text}
		if l.areBlank() {
			continue
		}
		later, e := take(forms, &l, begun)
		begun = true
		if first != api.OK {
			continue
		}
		if e != api.OK {
			first, line = e, n
		} else if later != nil {
			steps = append(steps, pending{later, n})
		}
	}
	if !begun {
		return nil, api.ErrForm, 0
	}
	return steps, first, line
}

// take reads a line, takes the step that is taken at once, and returns the other one. The object line, and no other, is the one with which the lines begin.
func take(forms map[string]form, l *words, begun bool) (later step, e api.Errno) {
	name := l.word()
	read, ok := forms[name]
	if !ok || begun == (name == "object") {
		return nil, api.ErrForm
	}
	now, later := read(l)
	if l.bad || !l.ended() {
		return nil, api.ErrForm
	}
	if now != nil {
		e = now()
	}
	return later, e
}

// end returns the index of the current section and its present size; -1 if there is none.
func (a *assembly) end() (sec, at int) {
	sec = len(a.o.Secs) - 1
	if sec < 0 {
		return sec, 0
	}
	return sec, a.o.Secs[sec].Size
}

// isIn reports whether there is a current section, and its kind is one of those that may be.
func (a *assembly) isIn(may func(kind int) bool) bool {
	sec, _ := a.end()
	return sec >= 0 && may(a.o.Secs[sec].Kind)
}

// anyKind accepts sections of all kinds.
func anyKind(int) bool {
	return true
}

// isCode reports whether a kind of sections is code.
func isCode(kind int) bool {
	return kind == api.SkCode
}

// hasBytes reports whether the sections of a kind have bytes.
func hasBytes(kind int) bool {
	return isCode(kind) || kind == api.SkData || kind == api.SkTls
}

// grow returns the step in which the current section gets more bytes.
func (a *assembly) grow(size int) step {
	return func() api.Errno {
		s := &a.o.Secs[len(a.o.Secs)-1]
		if s.Size+size > api.MaxSize {
			return api.ErrFull
		}
		s.Size += size
		return api.OK
	}
}

// makeRoom makes room for the bytes of the sections, which are zeros where no line gives others. It is only made if there is a use for it, because many sections may need more memory than there is.
func (a *assembly) makeRoom() {
	a.contents = make([][]byte, len(a.o.Secs))
	for i, s := range a.o.Secs {
		if hasBytes(s.Kind) {
			a.contents[i] = make([]byte, s.Size)
		}
	}
}

// fill returns the step in which bytes are put at the present end of the current section. They are known only then.
func (a *assembly) fill(bytes func() (string, api.Errno)) step {
	sec, at := a.end()
	return func() api.Errno {
		s, e := bytes()
		if a.contents != nil {
			copy(a.contents[sec][at:], s)
		}
		return e
	}
}

// append returns the steps in which the current section gets bytes.
func (a *assembly) append(s string) (now, later step) {
	return a.grow(len(s)), a.fill(func() (string, api.Errno) { return s, api.OK })
}

// finish completes the object when there is no error.
func (a *assembly) finish() {
	for i, b := range a.contents {
		a.o.Secs[i].Bytes = string(b)
	}
	for _, g := range a.o.Groups {
		slices.Sort(g.Secs)
	}
}

// declare declares a name, unless an earlier line declares it.
func declare[K comparable](names map[K]int, name K, n int) api.Errno {
	if _, ok := names[name]; ok {
		return api.ErrTwice
	}
	names[name] = n
	return api.OK
}

// find is a lookup of a name, which reports whether a line declares it.
type find func() bool

// lookup returns the lookup that stores what a name stands for.
func lookup[K comparable](names map[K]int, name K, to *int) find {
	return func() bool {
		n, ok := names[name]
		*to = n
		return ok
	}
}

// add returns the step in which a row is added to a list of the object, after lookups of the names in it.
func add[T any](list *[]T, row *T, names ...find) step {
	return func() api.Errno {
		for _, found := range names {
			if !found() {
				return api.ErrName
			}
		}
		*list = append(*list, *row)
		return api.OK
	}
}
