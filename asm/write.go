package asm

import (
	"strconv"
	"strings"

	"linchpin/api"
	"linchpin/digest"
	"linchpin/isa"
)

const mostBytes = 16 // in a line

// writer writes an object that is right.
type writer struct {
	o    api.Object
	rels []api.Rel // those that have not been written
	b    strings.Builder
}

// line writes a line of parts, which are words and numbers.
func (w *writer) line(parts ...any) {
	for i, x := range parts {
		if i > 0 {
			w.b.WriteByte(' ')
		}
		switch x := x.(type) {
		case string:
			w.b.WriteString(x)
		case int:
			w.b.WriteString(strconv.Itoa(x))
		}
	}
	w.b.WriteByte('\n')
}

// sec returns the word for a section.
func (w *writer) sec(i int) string {
	return w.o.Secs[i].Name
}

// sym returns the words for a symbol.
func (w *writer) sym(i int) string {
	s := w.o.Syms[i]
	if s.Version == "" {
		return s.Name
	}
	return s.Name + " " + s.Version
}

// sections writes the sections with their contents.
func (w *writer) sections() {
	for i, s := range w.o.Secs {
		parts := []any{"section", s.Name, places()[s.Kind], s.Align}
		if s.Keep {
			parts = append(parts, "keep")
		}
		w.line(parts...)
		switch s.Kind {
		case api.SkZero, api.SkTlsZero:
			if s.Size != 0 {
				w.line("space", s.Size)
			}
		default:
			w.contents(i)
		}
	}
}

// contents writes the bytes of a section, and its relocations in front of them.
func (w *writer) contents(sec int) {
	s := w.o.Secs[sec]
	for at := 0; at < len(s.Bytes); {
		if w.isRelocated(sec, at) {
			r := w.rels[0]
			w.line("rel", relocations()[r.Kind], r.Add, w.sym(r.Sym))
			w.rels = w.rels[1:]
		}
		if s.Kind == api.SkCode {
			w.instruction(s.Bytes, at)
			at += insSize
			continue
		}
		end := at + 1
		for end < len(s.Bytes) && end < at+mostBytes && !w.isRelocated(sec, end) {
			end++
		}
		w.line("bytes", digest.Hex(s.Bytes[at:end]))
		at = end
	}
}

// isRelocated reports whether the next relocation is at a place. There is at most one, since their fields do not overlap.
func (w *writer) isRelocated(sec, at int) bool {
	return len(w.rels) > 0 && w.rels[0].Sec == sec && w.rels[0].At == at
}

// instruction writes an instruction, or its bytes if they are none.
func (w *writer) instruction(s string, at int) {
	i, ok := isa.Decode(s, at)
	if !ok {
		w.line("bytes", digest.Hex(s[at:at+insSize]))
		return
	}
	w.line(isa.Text(i))
}

// symbols writes the symbols.
func (w *writer) symbols() {
	for i, s := range w.o.Syms {
		vis, kind := visibilities()[s.Vis], kinds()[s.Kind]
		switch {
		case s.Bind == api.BdCommon:
			w.line("common", vis, s.Size, s.Align, s.Name)
		case s.Sec == -1:
			w.line("ref", binds()[s.Bind], vis, kind, w.sym(i))
		case s.Main:
			w.line("main", binds()[s.Bind], vis, kind, w.sec(s.Sec), s.At, s.Size, w.sym(i))
		default:
			w.line("def", binds()[s.Bind], vis, kind, w.sec(s.Sec), s.At, s.Size, w.sym(i))
		}
	}
}

// groups writes the groups.
func (w *writer) groups() {
	for _, g := range w.o.Groups {
		parts := []any{"group", g.Name}
		for _, sec := range g.Secs {
			parts = append(parts, w.sec(sec))
		}
		w.line(parts...)
	}
}

// inits writes the initializers and finalizers.
func (w *writer) inits() {
	for _, x := range w.o.Inits {
		first := "init"
		if x.Last {
			first = "last"
		}
		w.line(first, x.Order, w.sym(x.Sym))
	}
}

// lines writes the lines of files.
func (w *writer) lines() {
	for _, l := range w.o.Lines {
		w.line("line", w.sec(l.Sec), l.At, l.Line, l.File)
	}
}

// inlines writes the inlined functions.
func (w *writer) inlines() {
	for _, x := range w.o.Inlines {
		w.line("inline", w.sec(x.Sec), x.From, x.To, x.Line, x.Name, x.File)
	}
}

// vars writes the variables.
func (w *writer) vars() {
	for _, v := range w.o.Vars {
		where := wheres()[v.Where]
		if v.Where == api.LoSym {
			w.line("var", w.sec(v.Sec), v.From, v.To, where, v.Name, w.sym(v.N))
		} else {
			w.line("var", w.sec(v.Sec), v.From, v.To, where, v.N, v.Name)
		}
	}
}

// depths writes the depths of the stack.
func (w *writer) depths() {
	for _, d := range w.o.Depths {
		w.line("depth", w.sec(d.Sec), d.From, d.To, d.Bytes)
	}
}

// converts writes the converters with their pieces.
func (w *writer) converts() {
	for _, c := range w.o.Converts {
		w.line("convert", w.sec(c.Sec), digest.Hex(c.From))
		for _, x := range c.Pieces {
			w.line("piece", x.From, x.Size, x.To)
		}
		if c.Code != -1 {
			w.line("by", w.sym(c.Code))
		}
	}
}
