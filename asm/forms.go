package asm

import (
	"strconv"
	"strings"

	"linchpin/api"
	"linchpin/isa"
	"linchpin/word"
)

const (
	insSize  = 8 // bytes of an instruction
	wordSize = 8
)

// forms returns the forms of the lines by their first words.
func (a *assembly) forms() map[string]form {
	forms := map[string]form{
		"object":  a.object,
		"section": a.section,
		"bytes":   a.bytes,
		"word":    a.word,
		"space":   a.space,
		"here":    a.here,
		"rel":     a.rel,
		"def":     func(l *words) (now, later step) { return a.definition(l, false) },
		"main":    func(l *words) (now, later step) { return a.definition(l, true) },
		"label":   a.label,
		"common":  a.common,
		"ref":     a.ref,
		"group":   a.group,
		"init":    func(l *words) (now, later step) { return a.initializer(l, false) },
		"last":    func(l *words) (now, later step) { return a.initializer(l, true) },
		"line":    a.line,
		"inline":  a.inline,
		"var":     a.variable,
		"depth":   a.depth,
		"convert": a.convert,
		"piece":   a.piece,
		"by":      a.by,
	}
	for op := api.OpNop; op < api.OpKinds; op++ {
		mnemonic, _, _ := strings.Cut(isa.Text(api.Ins{Op: op}), " ")
		forms[mnemonic] = a.instruction
	}
	return forms
}

// object reads the name of the object.
func (a *assembly) object(l *words) (now, later step) {
	name := l.word()
	return nil, func() api.Errno {
		a.o.Name = name
		return api.OK
	}
}

// section reads a section.
func (a *assembly) section(l *words) (now, later step) {
	s := api.Section{Name: l.word(), Kind: l.oneOf(places()), Align: l.number()}
	if !l.ended() {
		s.Keep = l.word() == "keep"
		l.need(s.Keep)
	}
	return func() api.Errno {
		a.o.Secs = append(a.o.Secs, s)
		return declare(a.secs, s.Name, len(a.o.Secs)-1)
	}, nil
}

// bytes reads bytes of the current section.
func (a *assembly) bytes(l *words) (now, later step) {
	l.need(a.isIn(hasBytes))
	return a.append(l.hex())
}

// word reads a number in the current section.
func (a *assembly) word(l *words) (now, later step) {
	l.need(a.isIn(hasBytes))
	s, _ := word.Put(strings.Repeat("\x00", wordSize), 0, wordSize, l.number())
	return a.append(s)
}

// space reads a number of zeros of the current section.
func (a *assembly) space(l *words) (now, later step) {
	l.need(a.isIn(anyKind))
	n := l.number()
	l.need(n >= 0 && n <= api.MaxSize)
	return a.grow(n), nil
}

// instruction reads an instruction of the current section. The number of bytes to a label takes the place of an @ and all that follows it.
func (a *assembly) instruction(l *words) (now, later step) {
	l.need(a.isIn(isCode))
	text := l.all()
	at := strings.LastIndexByte(text, '@')
	if at < 0 {
		l.need(isInstruction(text))
		return a.grow(insSize), a.fill(func() (string, api.Errno) { return encode(text) })
	}
	before, name := text[:at], strings.Trim(text[at+1:], blanks)
	l.need(isLabel(name) && isInstruction(before+"0"))
	sec, from := a.end()
	return a.grow(insSize), a.fill(func() (string, api.Errno) {
		to, ok := a.labels[label{sec, name}]
		if !ok {
			return "", api.ErrName
		}
		return encode(before + strconv.Itoa(to-from))
	})
}

// isInstruction reports whether a line is an instruction, which may have numbers that do not fit.
func isInstruction(s string) bool {
	_, e := isa.Parse(s)
	return e != api.ErrForm
}

// encode returns the bytes of the instruction that a line denotes.
func encode(s string) (string, api.Errno) {
	i, e := isa.Parse(s)
	if e != api.OK {
		return "", api.ErrRange
	}
	s, _ = isa.Encode(i)
	return s, api.OK
}

// here reads a label of the current section.
func (a *assembly) here(l *words) (now, later step) {
	l.need(a.isIn(anyKind))
	sec, at := a.end()
	name := l.label()
	return func() api.Errno { return declare(a.labels, label{sec, name}, at) }, nil
}

// rel reads a relocation of the current section.
func (a *assembly) rel(l *words) (now, later step) {
	l.need(a.isIn(anyKind))
	r := api.Rel{Kind: l.oneOf(relocations()), Add: l.number()}
	r.Sec, r.At = a.end()
	return nil, add(&a.o.Rels, &r, lookup(a.syms, l.sym(), &r.Sym))
}

// definition reads a symbol with its section and its place.
func (a *assembly) definition(l *words, main bool) (now, later step) {
	s := api.Symbol{Main: main, Bind: l.oneOf(binds()), Vis: l.oneOf(visibilities()), Kind: l.oneOf(kinds())}
	sec := l.word()
	s.At, s.Size = l.number(), l.number()
	return a.symbol(l.sym(), &s, lookup(a.secs, sec, &s.Sec))
}

// label reads a symbol at the end of the current section.
func (a *assembly) label(l *words) (now, later step) {
	l.need(a.isIn(anyKind))
	s := api.Symbol{Bind: l.oneOf(binds()), Vis: l.oneOf(visibilities()), Kind: l.oneOf(kinds()), Size: l.number()}
	s.Sec, s.At = a.end()
	return a.symbol(l.sym(), &s)
}

// common reads a common symbol.
func (a *assembly) common(l *words) (now, later step) {
	s := api.Symbol{Bind: api.BdCommon, Vis: l.oneOf(visibilities()), Kind: api.SyData, Sec: -1, Size: l.number(), Align: l.number()}
	return a.symbol(api.SymName{Name: l.word()}, &s)
}

// ref reads a reference.
func (a *assembly) ref(l *words) (now, later step) {
	s := api.Symbol{Bind: l.oneOf(binds()), Vis: l.oneOf(visibilities()), Kind: l.oneOf(kinds()), Sec: -1}
	return a.symbol(l.sym(), &s)
}

// symbol returns the steps in which a symbol is declared and added, with a lookup of the section of a definition.
func (a *assembly) symbol(name api.SymName, s *api.Symbol, sec ...find) (now, later step) {
	s.Name, s.Version = name.Name, name.Version
	return func() api.Errno { return declare(a.syms, name, len(a.syms)) }, add(&a.o.Syms, s, sec...)
}

// group reads a group.
func (a *assembly) group(l *words) (now, later step) {
	g := api.Group{Name: l.word()}
	secs := []string{l.word()}
	for !l.ended() {
		secs = append(secs, l.word())
	}
	g.Secs = make([]int, len(secs))
	var names []find
	for i, sec := range secs {
		names = append(names, lookup(a.secs, sec, &g.Secs[i]))
	}
	return nil, add(&a.o.Groups, &g, names...)
}

// initializer reads an initializer or finalizer.
func (a *assembly) initializer(l *words, last bool) (now, later step) {
	x := api.Init{Order: l.number(), Last: last}
	return nil, add(&a.o.Inits, &x, lookup(a.syms, l.sym(), &x.Sym))
}

// line reads a line of a file.
func (a *assembly) line(l *words) (now, later step) {
	sec := l.word()
	x := api.Line{At: l.number(), Line: l.number(), File: l.file()}
	return nil, add(&a.o.Lines, &x, lookup(a.secs, sec, &x.Sec))
}

// inline reads an inlined function.
func (a *assembly) inline(l *words) (now, later step) {
	sec := l.word()
	x := api.Inline{From: l.number(), To: l.number(), Line: l.number(), Name: l.word(), File: l.file()}
	return nil, add(&a.o.Inlines, &x, lookup(a.secs, sec, &x.Sec))
}

// variable reads a variable, whose name is in front of that of its symbol, but behind another number.
func (a *assembly) variable(l *words) (now, later step) {
	sec := l.word()
	v := api.Var{From: l.number(), To: l.number(), Where: l.oneOf(wheres())}
	names := []find{lookup(a.secs, sec, &v.Sec)}
	if v.Where == api.LoSym {
		v.Name = l.word()
		names = append(names, lookup(a.syms, l.sym(), &v.N))
	} else {
		v.N, v.Name = l.number(), l.word()
	}
	return nil, add(&a.o.Vars, &v, names...)
}

// depth reads a depth of the stack.
func (a *assembly) depth(l *words) (now, later step) {
	sec := l.word()
	d := api.Depth{From: l.number(), To: l.number(), Bytes: l.number()}
	return nil, add(&a.o.Depths, &d, lookup(a.secs, sec, &d.Sec))
}

// convert reads the beginning of a converter.
func (a *assembly) convert(l *words) (now, later step) {
	sec := l.word()
	c := api.Convert{From: l.hex(), Code: -1}
	return func() api.Errno {
		a.converting = true
		return api.OK
	}, add(&a.o.Converts, &c, lookup(a.secs, sec, &c.Sec))
}

// piece reads a piece of the last converter.
func (a *assembly) piece(l *words) (now, later step) {
	l.need(a.converting)
	x := api.Piece{From: l.number(), Size: l.number(), To: l.number()}
	return nil, func() api.Errno {
		c := a.converter()
		c.Pieces = append(c.Pieces, x)
		return api.OK
	}
}

// by reads the code of the last converter.
func (a *assembly) by(l *words) (now, later step) {
	l.need(a.converting)
	name := l.sym()
	return nil, func() api.Errno {
		if !lookup(a.syms, name, &a.converter().Code)() {
			return api.ErrName
		}
		return api.OK
	}
}

// converter returns the last converter that has been added.
func (a *assembly) converter() *api.Convert {
	return &a.o.Converts[len(a.o.Converts)-1]
}
