package object

import (
	"linchpin/api"
	"linchpin/wire"
)

// reader reads the parts of an object; they need not be right.
type reader struct{ *wire.Reader }

// Read returns the right object with an encoding, or false if there is none.
func Read(s string) (api.Object, bool) {
	r := reader{wire.Open(s)}
	o := r.object()
	// An encoding that is not the one of o has a truth value that is neither 0 nor 1, for example.
	if !r.Done() || Bytes(o) != s {
		return api.Object{}, false
	}
	return o, true
}

// object reads an object.
func (r reader) object() api.Object {
	return api.Object{
		Name:     r.Text(),
		Secs:     elements(r, r.section),
		Syms:     elements(r, r.symbol),
		Rels:     elements(r, r.relocation),
		Groups:   elements(r, r.group),
		Inits:    elements(r, r.initializer),
		Lines:    elements(r, r.line),
		Inlines:  elements(r, r.inline),
		Vars:     elements(r, r.variable),
		Depths:   elements(r, r.depth),
		Converts: elements(r, r.converter),
	}
}

// elements reads a list. It stops when the reader has failed, because the length of the list may be wrong.
func elements[T any](r reader, element func() T) []T {
	var l []T
	for range r.Num() {
		l = append(l, element())
		if r.Left() == 0 && !r.Done() {
			return nil
		}
	}
	return l
}

// truth reads a truth value.
func (r reader) truth() bool {
	return r.Num() == 1
}

// section reads a section.
func (r reader) section() api.Section {
	return api.Section{Name: r.Text(), Kind: r.Num(), Align: r.Num(), Size: r.Num(), Bytes: r.Text(), Keep: r.truth()}
}

// symbol reads a symbol.
func (r reader) symbol() api.Symbol {
	return api.Symbol{
		Name: r.Text(), Version: r.Text(), Main: r.truth(), Bind: r.Num(), Vis: r.Num(), Kind: r.Num(),
		Sec: r.Int(), At: r.Num(), Size: r.Num(), Align: r.Num(),
	}
}

// relocation reads a relocation.
func (r reader) relocation() api.Rel {
	return api.Rel{Sec: r.Num(), At: r.Num(), Kind: r.Num(), Sym: r.Num(), Add: r.Int()}
}

// group reads a group.
func (r reader) group() api.Group {
	return api.Group{Name: r.Text(), Secs: r.Nums()}
}

// initializer reads an initializer or finalizer.
func (r reader) initializer() api.Init {
	return api.Init{Sym: r.Num(), Order: r.Int(), Last: r.truth()}
}

// line reads a line.
func (r reader) line() api.Line {
	return api.Line{Sec: r.Num(), At: r.Num(), File: r.Text(), Line: r.Num()}
}

// inline reads an inlined function.
func (r reader) inline() api.Inline {
	return api.Inline{Sec: r.Num(), From: r.Num(), To: r.Num(), Name: r.Text(), File: r.Text(), Line: r.Num()}
}

// variable reads a variable.
func (r reader) variable() api.Var {
	return api.Var{Sec: r.Num(), From: r.Num(), To: r.Num(), Name: r.Text(), Where: r.Num(), N: r.Num()}
}

// depth reads a depth.
func (r reader) depth() api.Depth {
	return api.Depth{Sec: r.Num(), From: r.Num(), To: r.Num(), Bytes: r.Num()}
}

// converter reads a converter.
func (r reader) converter() api.Convert {
	return api.Convert{Sec: r.Num(), From: r.Text(), Pieces: elements(r, r.piece), Code: r.Int()}
}

// piece reads a piece of a converter.
func (r reader) piece() api.Piece {
	return api.Piece{From: r.Num(), Size: r.Num(), To: r.Num()}
}
