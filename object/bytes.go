package object

import (
	"strings"

	"linchpin/api"
	"linchpin/wire"
)

// Bytes returns the encoding of an object, or the empty string if it is not right.
func Bytes(o api.Object) string {
	if !Right(o) {
		return ""
	}
	l := []string{
		wire.Text(o.Name),
		list(o.Secs, section), list(o.Syms, symbol), list(o.Rels, relocation), list(o.Groups, group), list(o.Inits, initializer),
		list(o.Lines, line), list(o.Inlines, inline), list(o.Vars, variable), list(o.Depths, depth), list(o.Converts, converter),
	}
	return strings.Join(l, "")
}

// list returns the encoding of a list.
func list[T any](l []T, element func(T) string) string {
	var b strings.Builder
	b.WriteString(wire.Num(len(l)))
	for _, x := range l {
		b.WriteString(element(x))
	}
	return b.String()
}

// truth returns the encoding of a truth value.
func truth(is bool) string {
	if is {
		return wire.Num(1)
	}
	return wire.Num(0)
}

// section returns the encoding of a section.
func section(s api.Section) string {
	return wire.Text(s.Name) + wire.Num(s.Kind) + wire.Num(s.Align) + wire.Num(s.Size) + wire.Text(s.Bytes) + truth(s.Keep)
}

// symbol returns the encoding of a symbol.
func symbol(s api.Symbol) string {
	return wire.Text(s.Name) + wire.Text(s.Version) + truth(s.Main) + wire.Num(s.Bind) + wire.Num(s.Vis) + wire.Num(s.Kind) +
		wire.Int(s.Sec) + wire.Num(s.At) + wire.Num(s.Size) + wire.Num(s.Align)
}

// relocation returns the encoding of a relocation.
func relocation(r api.Rel) string {
	return wire.Num(r.Sec) + wire.Num(r.At) + wire.Num(r.Kind) + wire.Num(r.Sym) + wire.Int(r.Add)
}

// group returns the encoding of a group.
func group(g api.Group) string {
	return wire.Text(g.Name) + wire.Nums(g.Secs)
}

// initializer returns the encoding of an initializer or finalizer.
func initializer(x api.Init) string {
	return wire.Num(x.Sym) + wire.Int(x.Order) + truth(x.Last)
}

// line returns the encoding of a line.
func line(l api.Line) string {
	return wire.Num(l.Sec) + wire.Num(l.At) + wire.Text(l.File) + wire.Num(l.Line)
}

// inline returns the encoding of an inlined function.
func inline(x api.Inline) string {
	return wire.Num(x.Sec) + wire.Num(x.From) + wire.Num(x.To) + wire.Text(x.Name) + wire.Text(x.File) + wire.Num(x.Line)
}

// variable returns the encoding of a variable.
func variable(v api.Var) string {
	return wire.Num(v.Sec) + wire.Num(v.From) + wire.Num(v.To) + wire.Text(v.Name) + wire.Num(v.Where) + wire.Num(v.N)
}

// depth returns the encoding of a depth.
func depth(d api.Depth) string {
	return wire.Num(d.Sec) + wire.Num(d.From) + wire.Num(d.To) + wire.Num(d.Bytes)
}

// converter returns the encoding of a converter.
func converter(c api.Convert) string {
	return wire.Num(c.Sec) + wire.Text(c.From) + list(c.Pieces, piece) + wire.Int(c.Code)
}

// piece returns the encoding of a piece of a converter.
func piece(x api.Piece) string {
	return wire.Num(x.From) + wire.Num(x.Size) + wire.Num(x.To)
}
