package object

import (
	"cmp"

	"linchpin/api"
	"linchpin/isa"
	"linchpin/word"
)

const (
	maxOrder  = 1 << 20 // of an initializer, in both directions
	maxLine   = 1 << 20 // the number of a line of a file
	addBits   = 32      // of Add of a relocation, with its sign
	registers = 16      // they have the numbers below it
	formSize  = 32      // bytes of a digest
)

// parts is an object whose parts are checked in their order in the type: the check of a part presumes that those before it are right.
type parts api.Object

// Right reports whether an object is right.
func Right(o api.Object) bool {
	p := (*parts)(&o)
	for _, right := range []func() bool{p.name, p.secs, p.syms, p.rels, p.groups, p.inits, p.lines, p.inlines, p.vars, p.depths, p.converts} {
		if !right() {
			return false
		}
	}
	return true
}

// name checks the name of the object.
func (p *parts) name() bool {
	return isName(p.Name)
}

// secs checks the sections.
func (p *parts) secs() bool {
	return len(p.Secs) <= api.MaxSecs && every(p.Secs, rightSec) &&
		differ(p.Secs, func(s api.Section) string { return s.Name })
}

// syms checks the symbols.
func (p *parts) syms() bool {
	return len(p.Syms) <= api.MaxSyms && every(p.Syms, p.rightSym) &&
		differ(p.Syms, func(s api.Symbol) [2]string { return [2]string{s.Name, s.Version} })
}

// rels checks the relocations.
func (p *parts) rels() bool {
	return every(p.Rels, p.rightRel) && ordered(p.Rels, func(r, next api.Rel) bool {
		if r.Sec == next.Sec {
			return next.At >= r.At+width(r.Kind)
		}
		return r.Sec < next.Sec
	})
}

// groups checks the groups.
func (p *parts) groups() bool {
	in := make([]bool, len(p.Secs))
	for _, g := range p.Groups {
		if !isName(g.Name) || len(g.Secs) == 0 || !ordered(g.Secs, cmp.Less) {
			return false
		}
		for _, sec := range g.Secs {
			if !p.isIndex(sec) || in[sec] {
				return false
			}
			in[sec] = true
		}
	}
	return differ(p.Groups, func(g api.Group) string { return g.Name })
}

// inits checks the initializers and finalizers.
func (p *parts) inits() bool {
	return every(p.Inits, func(x api.Init) bool {
		return p.hasSym(x.Sym, api.SyCode) && x.Order >= -maxOrder && x.Order <= maxOrder
	})
}

// converts checks the converters.
func (p *parts) converts() bool {
	return every(p.Converts, p.rightConvert) && ordered(p.Converts, func(c, next api.Convert) bool {
		return cmp.Or(cmp.Compare(c.Sec, next.Sec), cmp.Compare(c.From, next.From)) < 0
	})
}

// rightSec reports whether a section is right.
func rightSec(s api.Section) bool {
	if !isName(s.Name) || !word.Power(s.Align) || s.Size < 0 || s.Size > api.MaxSize {
		return false
	}
	switch s.Kind {
	case api.SkCode:
		return s.Align >= insSize && s.Size%insSize == 0 && len(s.Bytes) == s.Size
	case api.SkData, api.SkTls:
		return len(s.Bytes) == s.Size
	case api.SkZero, api.SkTlsZero:
		return s.Bytes == ""
	}
	return false
}

// rightSym reports whether a symbol is right, which is of one of three sorts.
func (p *parts) rightSym(s api.Symbol) bool {
	if !isName(s.Name) || s.Version != "" && !isName(s.Version) {
		return false
	}
	if !isKind(s.Bind, api.BdKinds) || !isKind(s.Vis, api.ViKinds) || !isKind(s.Kind, api.SyKinds) {
		return false
	}
	switch {
	case s.Sec != -1:
		return p.isDefinition(s)
	case s.Bind == api.BdCommon:
		return isCommon(s)
	}
	return isReference(s)
}

// isDefinition reports whether a symbol defines a place in a section.
func (p *parts) isDefinition(s api.Symbol) bool {
	if !p.isIndex(s.Sec) || !holds(p.Secs[s.Sec].Kind, s.Kind) || !lies(s.At, s.Size, p.Secs[s.Sec].Size) {
		return false
	}
	if s.Kind == api.SyCode && s.At%insSize != 0 || s.Align != 0 || s.Main && s.Version == "" {
		return false
	}
	switch s.Bind {
	case api.BdCommon:
		return false
	case api.BdLocal:
		return s.Version == "" && s.Vis == api.ViDefault
	}
	return true
}

// isCommon reports whether a symbol without a section, which is bound as a common one, is right.
func isCommon(s api.Symbol) bool {
	return s.Kind == api.SyData && s.Version == "" && !s.Main && s.At == 0 && s.Size >= 1 && s.Size <= api.MaxSize && word.Power(s.Align)
}

// isReference reports whether a symbol without a section, which is not bound as a common one, is right.
func isReference(s api.Symbol) bool {
	return s.Bind != api.BdLocal && !s.Main && s.At == 0 && s.Size == 0 && s.Align == 0
}

// holds reports whether the sections of a kind define symbols of a kind.
func holds(sec, sym int) bool {
	switch sec {
	case api.SkCode:
		return sym == api.SyCode
	case api.SkData, api.SkZero:
		return sym == api.SyData
	}
	return sym == api.SyTls
}

// rightRel reports whether a relocation is right by itself.
func (p *parts) rightRel(r api.Rel) bool {
	if !p.isIndex(r.Sec) || !isKind(r.Kind, api.RkKinds) || r.Sym < 0 || r.Sym >= len(p.Syms) || !word.Fits(r.Add, addBits, true) {
		return false
	}
	s, size := p.Secs[r.Sec], width(r.Kind)
	if !lies(r.At, size, s.Size) || r.At%size != 0 {
		return false
	}
	if !inCode(r.Kind) {
		return s.Kind == api.SkData && s.Align >= size
	}
	i, ok := isa.Decode(s.Bytes, r.At)
	return s.Kind == api.SkCode && ok && takes(i.Op, r.Kind)
}

// rightConvert reports whether a converter is right by itself.
func (p *parts) rightConvert(c api.Convert) bool {
	if !p.hasSec(c.Sec, api.SkData) || len(c.From) != formSize || c.Code != -1 && !p.hasSym(c.Code, api.SyCode) {
		return false
	}
	size := p.Secs[c.Sec].Size
	return every(c.Pieces, func(x api.Piece) bool {
		return x.Size >= 1 && lies(x.From, x.Size, api.MaxSize) && lies(x.To, x.Size, size)
	}) && ordered(c.Pieces, func(x, next api.Piece) bool { return next.To >= x.To+x.Size })
}

// isIndex reports whether there is a section with an index.
func (p *parts) isIndex(sec int) bool {
	return sec >= 0 && sec < len(p.Secs)
}

// hasSec reports whether there is a section of a kind with an index.
func (p *parts) hasSec(sec, kind int) bool {
	return p.isIndex(sec) && p.Secs[sec].Kind == kind
}

// hasSym reports whether there is a symbol of a kind with an index.
func (p *parts) hasSym(sym, kind int) bool {
	return sym >= 0 && sym < len(p.Syms) && p.Syms[sym].Kind == kind
}

// isKind reports whether a number is one of so many kinds.
func isKind(n, kinds int) bool {
	return n >= 0 && n < kinds
}

// lies reports whether size bytes from an offset on lie in a whole. It subtracts, because at+size may wrap around.
func lies(at, size, whole int) bool {
	return at >= 0 && size >= 0 && at <= whole-size
}
