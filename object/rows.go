package object

import (
	"cmp"

	"linchpin/api"
)

// lines checks the lines.
func (p *parts) lines() bool {
	return every(p.Lines, p.rightLine) && ordered(p.Lines, func(l, next api.Line) bool {
		return cmp.Or(cmp.Compare(l.Sec, next.Sec), cmp.Compare(l.At, next.At)) < 0
	})
}

// inlines checks the inlined functions. Two of them may be equal.
func (p *parts) inlines() bool {
	return every(p.Inlines, p.rightInline) && ordered(p.Inlines, func(x, next api.Inline) bool {
		return cmp.Or(cmp.Compare(x.Sec, next.Sec), cmp.Compare(x.From, next.From), cmp.Compare(next.To, x.To)) <= 0
	}) && nested(p.Inlines)
}

// vars checks the variables.
func (p *parts) vars() bool {
	return every(p.Vars, p.rightVar) && ordered(p.Vars, func(v, next api.Var) bool {
		return cmp.Or(cmp.Compare(v.Sec, next.Sec), cmp.Compare(v.From, next.From), cmp.Compare(v.To, next.To), cmp.Compare(v.Name, next.Name)) < 0
	})
}

// depths checks the depths of the stack.
func (p *parts) depths() bool {
	return every(p.Depths, p.rightDepth) && ordered(p.Depths, func(d, next api.Depth) bool {
		if d.Sec == next.Sec {
			return next.From >= d.To
		}
		return d.Sec < next.Sec
	})
}

// rightLine reports whether a line is right by itself.
func (p *parts) rightLine(l api.Line) bool {
	return p.hasSec(l.Sec, api.SkCode) && l.At >= 0 && l.At < p.Secs[l.Sec].Size && l.At%insSize == 0 && isFile(l.File) && isLine(l.Line)
}

// rightInline reports whether an inlined function is right by itself.
func (p *parts) rightInline(x api.Inline) bool {
	return p.hasRange(x.Sec, x.From, x.To) && isName(x.Name) && isFile(x.File) && isLine(x.Line)
}

// rightVar reports whether a variable is right by itself.
func (p *parts) rightVar(v api.Var) bool {
	if !p.hasRange(v.Sec, v.From, v.To) || !isName(v.Name) {
		return false
	}
	switch v.Where {
	case api.LoReg:
		return v.N >= 0 && v.N < registers
	case api.LoStack:
		return onStack(v.N)
	case api.LoSym:
		return p.hasSym(v.N, api.SyData)
	}
	return false
}

// rightDepth reports whether a depth is right by itself.
func (p *parts) rightDepth(d api.Depth) bool {
	return p.hasRange(d.Sec, d.From, d.To) && onStack(d.Bytes)
}

// hasRange reports whether a range of a section is right.
func (p *parts) hasRange(sec, from, to int) bool {
	return p.hasSec(sec, api.SkCode) && from >= 0 && from < to && to <= p.Secs[sec].Size && from%insSize == 0 && to%insSize == 0
}

// nested reports whether each of the inlined functions, which are in order, is behind those before it or within them.
func nested(l []api.Inline) bool {
	var open []api.Inline // each one within the one before it
	for _, x := range l {
		for len(open) > 0 && behind(x, open[len(open)-1]) {
			open = open[:len(open)-1]
		}
		if len(open) > 0 && x.To > open[len(open)-1].To {
			return false
		}
		open = append(open, x)
	}
	return true
}

// behind reports whether an inlined function begins where another one has ended.
func behind(x, other api.Inline) bool {
	return x.Sec != other.Sec || x.From >= other.To
}

// onStack reports whether a number of bytes leads from the stack pointer to 8 bytes of a stack.
func onStack(n int) bool {
	return n >= 0 && n <= api.StackSize-8 && n%8 == 0
}

// isLine reports whether a number is that of a line of a file.
func isLine(n int) bool {
	return n >= 1 && n <= maxLine
}
