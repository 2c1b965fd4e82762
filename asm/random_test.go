package asm

import (
	"reflect"
	"slices"
	"strconv"
	"strings"
	"testing"

	"linchpin/api"
	"linchpin/isa"
	"linchpin/object"
)

// relocated are instructions that relocations may be in, and others.
var relocated = []int{api.OpAddr, api.OpJump, api.OpZero, api.OpNonzero, api.OpCall, api.OpCallSlot, api.OpJumpSlot, api.OpSet, api.OpHigh, api.OpAddImm, api.OpNop, api.OpReturn}

// randomObject returns a right object with many parts.
func randomObject(next func(int) int) api.Object {
	o := api.Object{Name: "o" + strconv.Itoa(next(100))}
	for i := range 1 + next(12) {
		o.Secs = append(o.Secs, randomSec(next, i))
	}
	for i := range 1 + next(10) {
		o.Syms = append(o.Syms, randomSym(next, o, i))
	}
	// Of each kind, there is one.
	for kind := range api.SyKinds {
		o.Syms = append(o.Syms, api.Symbol{Name: "@any" + strconv.Itoa(kind), Bind: api.BdWeak, Kind: kind, Sec: -1})
	}
	in := map[int]int{} // the groups of the sections
	for sec := range o.Secs {
		randomRels(next, &o, sec)
		if o.Secs[sec].Kind == api.SkCode {
			randomRows(next, &o, sec)
		}
		if o.Secs[sec].Kind == api.SkData {
			randomConverts(next, &o, sec)
		}
		in[sec] = next(6)
	}
	for g := range 3 {
		var secs []int
		for sec := range o.Secs {
			if in[sec] == g {
				secs = append(secs, sec)
			}
		}
		if len(secs) > 0 {
			o.Groups = append(o.Groups, api.Group{Name: "g" + strconv.Itoa(g), Secs: secs})
		}
	}
	for range next(4) {
		o.Inits = append(o.Inits, api.Init{Sym: randomSymOf(next, o, api.SyCode), Order: next(1<<21+1) - 1<<20, Last: next(2) == 0})
	}
	return o
}

// randomSec returns a section.
func randomSec(next func(int) int, i int) api.Section {
	s := api.Section{Name: "s" + strconv.Itoa(i), Kind: next(api.SkKinds), Align: 1 << next(9), Size: next(100), Keep: next(2) == 0}
	switch s.Kind {
	case api.SkCode:
		s.Align = max(s.Align, 8)
		for range next(10) {
			s.Bytes += randomCode(next)
		}
		s.Size = len(s.Bytes)
	case api.SkData, api.SkTls:
		for range s.Size {
			s.Bytes += string([]byte{byte(next(256))})
		}
	}
	return s
}

// randomCode returns the bytes of an instruction, or 8 other ones.
func randomCode(next func(int) int) string {
	i := api.Ins{Op: next(api.OpKinds + 2), A: next(3), B: next(3), C: next(2), Imm: 8 * (next(9) - 4)}
	if next(3) > 0 {
		i = api.Ins{Op: relocated[next(len(relocated))]}
	}
	if s, ok := isa.Encode(i); ok {
		return s
	}
	return string([]byte{byte(next(40)), byte(next(20)), byte(next(3)), 0, byte(next(256)), 0, 0, 1})
}

// randomSym returns a symbol.
func randomSym(next func(int) int, o api.Object, i int) api.Symbol {
	s := api.Symbol{Name: "n" + strconv.Itoa(i), Vis: next(api.ViKinds), Sec: -1}
	if next(2) == 0 {
		s.Name, s.Version = "n"+strconv.Itoa(i/2), "v"+strconv.Itoa(i)
	}
	switch next(5) {
	case 0:
		s.Bind, s.Kind = api.BdGlobal+next(2), next(api.SyKinds)
		return s
	case 1:
		s.Version, s.Name = "", "c"+strconv.Itoa(i)
		s.Bind, s.Kind, s.Size, s.Align = api.BdCommon, api.SyData, 1+next(api.MaxSize), 1<<next(9)
		return s
	}
	s.Sec = next(len(o.Secs))
	s.Kind = []int{api.SyCode, api.SyData, api.SyData, api.SyTls, api.SyTls}[o.Secs[s.Sec].Kind]
	s.Bind = api.BdGlobal + next(2)
	s.Main = s.Version != "" && next(2) == 0
	if next(3) == 0 {
		s.Bind, s.Vis, s.Version, s.Main, s.Name = api.BdLocal, api.ViDefault, "", false, "l"+strconv.Itoa(i)
	}
	s.At = next(o.Secs[s.Sec].Size + 1)
	if s.Kind == api.SyCode {
		s.At -= s.At % 8
	}
	s.Size = next(o.Secs[s.Sec].Size - s.At + 1)
	return s
}

// randomSymOf returns the index of a symbol of a kind.
func randomSymOf(next func(int) int, o api.Object, kind int) int {
	for {
		if i := next(len(o.Syms)); o.Syms[i].Kind == kind {
			return i
		}
	}
}

// randomRels adds relocations of a section.
func randomRels(next func(int) int, o *api.Object, sec int) {
	for at := 0; at < o.Secs[sec].Size; at++ {
		if next(3) == 0 {
			continue
		}
		p := api.Object{Name: o.Name, Secs: o.Secs[sec : sec+1], Syms: []api.Symbol{{Name: "f", Bind: api.BdWeak, Sec: -1}}}
		kind, width := next(api.RkKinds), 8
		p.Rels = []api.Rel{{At: at, Kind: kind, Add: next(1<<31) - next(1<<31)}}
		if kind == api.RkDelta || kind == api.RkDiff4 {
			width = map[int]int{api.RkDelta: 2, api.RkDiff4: 4}[kind]
		}
		if object.Right(p) {
			o.Rels = append(o.Rels, api.Rel{Sec: sec, At: at, Kind: kind, Sym: next(len(o.Syms)), Add: p.Rels[0].Add})
			at += width - 1
		}
	}
}

// randomRows adds debug information of a section of code.
func randomRows(next func(int) int, o *api.Object, sec int) {
	size := o.Secs[sec].Size
	for at := 0; at < size; at += 8 * (1 + next(3)) {
		o.Lines = append(o.Lines, api.Line{Sec: sec, At: at, File: []string{"f.c", " f", "#", "a b ", "  "}[next(5)], Line: 1 + next(1<<20)})
		to := at + 8*(1+next((size-at)/8))
		for _, name := range []string{"a", "b", "c"}[next(4):] {
			o.Vars = append(o.Vars, api.Var{Sec: sec, From: at, To: to, Name: name, Where: api.LoReg, N: next(16)})
			v := &o.Vars[len(o.Vars)-1]
			switch next(3) {
			case 0:
				v.Where, v.N = api.LoStack, 8*next(128)
			case 1:
				v.Where, v.N = api.LoSym, randomSymOf(next, *o, api.SyData)
			}
		}
	}
	randomInlines(next, o, sec, 0, size)
	for at := 0; at < size; {
		to := at + 8*(1+next((size-at)/8))
		if next(3) > 0 {
			o.Depths = append(o.Depths, api.Depth{Sec: sec, From: at, To: to, Bytes: 8 * next(128)})
		}
		at = to
	}
}

// randomInlines adds inlined functions in a range.
func randomInlines(next func(int) int, o *api.Object, sec, from, end int) {
	for from < end {
		to := from + 8*(1+next((end-from)/8))
		if next(3) > 0 {
			o.Inlines = append(o.Inlines, api.Inline{Sec: sec, From: from, To: to, Name: "i" + strconv.Itoa(next(3)), File: "f c", Line: 1 + next(1<<20)})
			randomInlines(next, o, sec, from, to)
		}
		from = to
	}
}

// randomConverts adds converters of a section of data.
func randomConverts(next func(int) int, o *api.Object, sec int) {
	for _, b := range []string{"\x01", "b", "\xfe"}[next(4):] {
		c := api.Convert{Sec: sec, From: strings.Repeat(b, 32), Code: -1}
		if next(2) == 0 {
			c.Code = randomSymOf(next, *o, api.SyCode)
		}
		for at := next(8); at < o.Secs[sec].Size; at += next(20) {
			n := 1 + next(o.Secs[sec].Size-at)
			c.Pieces = append(c.Pieces, api.Piece{From: next(api.MaxSize - n + 1), Size: n, To: at})
			at += n
		}
		o.Converts = append(o.Converts, c)
	}
}

// P11.2, P11.4: pseudo-random right objects, and what becomes of them when a field is changed.
func TestRandomWrite(t *testing.T) {
	parts := map[string]int{}
	right := 0
	for seed := range 500 {
		next := random(uint64(seed))
		o := randomObject(next)
		if checkWrite(t, o) == "" {
			t.Fatalf("not right: %+v", o)
		}
		v := reflect.ValueOf(&o).Elem()
		for i := range v.NumField() {
			parts[v.Type().Field(i).Name] += v.Field(i).Len()
		}
		for range 3 {
			all := lists(v)
			l := all[next(len(all))]
			if l.Len() == 0 {
				continue
			}
			x := l.Index(next(l.Len()))
			if x.Kind() == reflect.Struct {
				x = x.Field(next(x.NumField()))
			}
			switch x.Kind() {
			case reflect.Int:
				x.SetInt(int64([]int{-1, 0, 1, 2, 3, 4, 8, 16, 1 << 20, -1 << 63}[next(10)]))
			case reflect.Bool:
				x.SetBool(!x.Bool())
			case reflect.String:
				x.SetString([]string{"", "x", "a b", "v", "#"}[next(5)])
			}
			if checkWrite(t, o) != "" {
				right++
			}
		}
	}
	for name, n := range parts {
		if n < 500 {
			t.Errorf("only %d %s", n, name)
		}
	}
	if right < 100 {
		t.Errorf("only %d are right when changed", right)
	}
}

// P11.1, P11.4: pseudo-random changes of the lines of pseudo-random objects.
func TestRandomLines(t *testing.T) {
	t.Parallel()
	n := tally{}
	for seed := range 600 {
		next := random(uint64(seed) + 5000)
		lines := strings.Split(Write(randomObject(next)), "\n")
		for range 6 {
			changed := slices.Clone(lines)
			for range 1 + next(3) {
				i := next(len(changed))
				switch next(6) {
				case 0:
					changed = with(changed, i, slices.Repeat(changed[i:i+1], 2*next(2))...)
				case 1:
					k := next(len(changed))
					changed[i], changed[k] = changed[k], changed[i]
				case 2:
					changed = with(changed, i, changed[i], strings.Split(whole, "\n")[next(50)])
				case 3:
					changed = with(changed, i, []string{"here a", "here b", "space 8", "nop", "#", "jump @b", "set r1, @a"}[next(7)], changed[i])
				default:
					p := parts(changed[i])
					if len(p) > 1 {
						p[2*next(len(p)/2)+1] = candidates[next(len(candidates))]
					}
					changed[i] = strings.Join(p, "")
				}
			}
			n.of(t, changed)
		}
	}
	n.atLeast(t, 50, api.OK, api.ErrArg, api.ErrForm, api.ErrName, api.ErrTwice)
}

// P11.1: sections that are declared several times, and labels of the same names in each, in pseudo-random order.
func TestRandomLabels(t *testing.T) {
	t.Parallel()
	n := tally{}
	next := random(7)
	some := []string{"section a code 8", "section b code 8", "section c code 8", "section d code 8", "section z zero 8", "here x", "here y", "here x", "space 504", "space 8", "nop", "bytes 0102030405060708", "space 1048072", "call @x", "call @y", "jump @x", "set r1, @y", "move r1, r@x", "zero r2, @x", "jump 3", "odd", "#"}
	for range 8000 {
		lines := []string{"object o", some[next(4)]}
		for range 2 + next(9) {
			k := next(len(some))
			if k >= len(some)-3 && next(3) > 0 || k == 12 && next(20) > 0 {
				k = 5 + next(3)
			}
			lines = append(lines, some[k])
		}
		n.of(t, lines)
	}
	n.atLeast(t, 300, api.OK, api.ErrForm, api.ErrName, api.ErrTwice)
	n.atLeast(t, 50, api.ErrRange)
	n.atLeast(t, 3, api.ErrFull)
}

// P11.1: texts of characters that have a meaning, of all sorts.
func TestRandomTexts(t *testing.T) {
	t.Parallel()
	next := random(3)
	some := []string{"object", "section", "code", "8", "nop", "\n", "\n", "\n", " ", " ", " ", "\t", "#", "@", "x", "here", "jump", "a", "0", "-", ",", "r1", "set", "\x00", "\xff", "bytes", "00", "space", "keep"}
	for range 20000 {
		s := []string{"", "object a\n", "object a\nsection x code 8\n", "object a\nsection x code 8\nhere a\nnop\n"}[next(4)]
		for range next(12) {
			s += some[next(len(some))]
		}
		check(t, s)
	}
}

// P11.1: long texts and lines are read in reasonable time.
func TestLong(t *testing.T) {
	var many strings.Builder
	many.WriteString("object a\nsection s code 8\n")
	for i := range 50000 {
		many.WriteString("here l" + strconv.Itoa(i) + "\nset r1, @l" + strconv.Itoa((i+7777)%50000) + "\n")
	}
	o, e, line := Parse(many.String())
	if e != api.OK || line != 0 || len(o.Secs[0].Bytes) != 400000 {
		t.Errorf("%d, %d", e, line)
	}
	if i, _ := isa.Decode(o.Secs[0].Bytes, 0); i != (api.Ins{Op: api.OpSet, A: 1, Imm: 8 * 7777}) {
		t.Errorf("%+v", i)
	}
	if p, e, _ := Parse(Write(o)); e != api.OK || !same(o, p) {
		t.Error(e)
	}
	long := strings.Repeat(" ", 1<<19)
	checkAll(t, []result{
		{"object a" + long + "\nsection s code 8\ngroup g" + strings.Repeat(" s", 10000) + long, api.ErrArg, 0},
		{"object a\nsection s code 8\ngroup g " + strings.Repeat("s\t ", 10000) + long + "t", api.ErrName, 3},
		{"object " + strings.Repeat("a", 1<<20), api.ErrArg, 0},
		{"object a\nsection s data 8\nbytes " + strings.Repeat("0", 1<<21), api.OK, 0},
		{"object a\nsection s data 8\nbytes " + strings.Repeat("0", 1<<21+2), api.ErrFull, 3},
		{"object a\nsection s data 8\nword " + strings.Repeat("9", 1<<16), api.ErrForm, 3},
		{"object a" + strings.Repeat("\n", 1<<16) + "odd", api.ErrForm, 1<<16 + 1},
		{"object a\nsection s code 8\njump @" + strings.Repeat("x", 1<<20), api.ErrName, 3},
		{"object a\nsection s code 8\njump " + strings.Repeat("@", 1<<18) + "x", api.ErrForm, 3},
	})
}

// P11.3: the same results again, after other calls.
func TestAgain(t *testing.T) {
	var texts []string
	var objects []api.Object
	for seed := range 40 {
		o := randomObject(random(uint64(seed)))
		texts, objects = append(texts, Write(o)), append(objects, clone(o))
	}
	for i, s := range texts {
		Parse("object a\nsection s code 8\nodd")
		if o, e, line := Parse(s); e != api.OK || line != 0 || !same(o, objects[i]) || Write(objects[i]) != s {
			t.Errorf("%d: %d, %d", i, e, line)
		}
	}
}
