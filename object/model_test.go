package object

import (
	"encoding/binary"
	"math"
	"math/big"
	"reflect"
	"slices"
	"strings"

	"linchpin/api"
	"linchpin/isa"
)

// random returns a function that returns numbers below a bound, the same ones each time.
func random(seed uint64) func(bound int) int {
	return func(bound int) int {
		seed = seed*6364136223846793005 + 1442695040888963407
		return int(seed>>33) % bound
	}
}

// instruction returns the bytes of an instruction.
func instruction(op, a, b, imm int) string {
	s, ok := isa.Encode(api.Ins{Op: op, A: a, B: b, Imm: imm})
	if !ok {
		panic("an instruction of the tests is not right")
	}
	return s
}

// The instructions of the section text of the base, 8 bytes each.
var baseOps = []int{api.OpAddr, api.OpJump, api.OpZero, api.OpNonzero, api.OpCall, api.OpCallSlot, api.OpJumpSlot, api.OpSet, api.OpHigh, api.OpAddImm, api.OpNop, api.OpReturn}

// baseText returns the bytes of the section text of the base.
func baseText() string {
	s := ""
	for _, op := range baseOps {
		s += instruction(op, 0, 0, 0)
	}
	return s
}

// The sections and symbols of the base by their names.
const (
	secText    = iota // 96 bytes
	secData           // 32 bytes
	secZero           // 24 bytes
	secTls            // 8 bytes
	secTlsZero        // 16 bytes
	secCode           // 24 bytes
	secMore           // 16 bytes of data, with the Align 2
	baseSecs
)

const (
	symMain = iota
	symMainV1
	symLocal
	symZero
	symTls
	symTlsZero
	symCommon
	symRef
	symRefData
	symEnd
	baseSyms
)

// base returns a right object with all kinds of parts, as new memory.
func base() api.Object {
	text := baseText()
	return api.Object{
		Name: "base.o",
		Secs: []api.Section{
			{Name: "text", Kind: api.SkCode, Align: 8, Size: len(text), Bytes: text},
			{Name: "data", Kind: api.SkData, Align: 8, Size: 32, Bytes: strings.Repeat("d", 32), Keep: true},
			{Name: "zero", Kind: api.SkZero, Align: 1, Size: 24},
			{Name: "tls", Kind: api.SkTls, Align: 4, Size: 8, Bytes: "01234567"},
			{Name: "tlszero", Kind: api.SkTlsZero, Align: 256, Size: 16},
			{Name: "code", Kind: api.SkCode, Align: 16, Size: 24, Bytes: text[:24]},
			{Name: "more", Kind: api.SkData, Align: 2, Size: 16, Bytes: strings.Repeat("m", 16)},
		},
		Syms: []api.Symbol{
			symMain:    {Name: "main", Bind: api.BdGlobal, Kind: api.SyCode, Sec: secText, Size: 96},
			symMainV1:  {Name: "main", Version: "v1", Main: true, Bind: api.BdWeak, Vis: api.ViProtected, Kind: api.SyCode, Sec: secText, At: 16, Size: 7},
			symLocal:   {Name: "local", Bind: api.BdLocal, Kind: api.SyData, Sec: secData, At: 5, Size: 3},
			symZero:    {Name: "zero", Version: "v2", Bind: api.BdGlobal, Vis: api.ViHidden, Kind: api.SyData, Sec: secZero, At: 1, Size: 23},
			symTls:     {Name: "tls", Bind: api.BdGlobal, Kind: api.SyTls, Sec: secTls, At: 4, Size: 4},
			symTlsZero: {Name: "tlszero", Bind: api.BdGlobal, Kind: api.SyTls, Sec: secTlsZero, At: 3, Size: 1},
			symCommon:  {Name: "common", Bind: api.BdCommon, Vis: api.ViHidden, Kind: api.SyData, Sec: -1, Size: 12, Align: 16},
			symRef:     {Name: "ref", Version: "v1", Bind: api.BdWeak, Vis: api.ViProtected, Kind: api.SyCode, Sec: -1},
			symRefData: {Name: "ref", Bind: api.BdGlobal, Kind: api.SyData, Sec: -1},
			symEnd:     {Name: "end", Bind: api.BdLocal, Kind: api.SyCode, Sec: secText, At: 96},
		},
		Rels: []api.Rel{
			{Sec: secText, At: 0, Kind: api.RkAddr, Sym: symMain, Add: -1},
			{Sec: secText, At: 8, Kind: api.RkAddr, Sym: symMain},
			{Sec: secText, At: 32, Kind: api.RkCall, Sym: symRef, Add: 8},
			{Sec: secText, At: 40, Kind: api.RkSlot, Sym: symRef},
			{Sec: secText, At: 56, Kind: api.RkLow, Sym: symRefData},
			{Sec: secText, At: 64, Kind: api.RkHigh, Sym: symRefData},
			{Sec: secText, At: 72, Kind: api.RkTls, Sym: symTls},
			{Sec: secData, At: 0, Kind: api.RkWord, Sym: symMain, Add: math.MaxInt32},
			{Sec: secData, At: 8, Kind: api.RkDiff4, Sym: symMain, Add: math.MinInt32},
			{Sec: secData, At: 12, Kind: api.RkDelta, Sym: symMain},
			{Sec: secData, At: 16, Kind: api.RkSize, Sym: symCommon},
			{Sec: secData, At: 24, Kind: api.RkModule, Sym: symTlsZero},
			{Sec: secMore, At: 2, Kind: api.RkDelta, Sym: symLocal},
			{Sec: secMore, At: 4, Kind: api.RkDelta, Sym: symLocal},
		},
		Groups: []api.Group{{Name: "one", Secs: []int{secText, secZero}}, {Name: "two", Secs: []int{secData}}},
		Inits:  []api.Init{{Sym: symRef, Order: 1}, {Sym: symMain, Order: -1 << 20, Last: true}, {Sym: symMain, Order: 1 << 20}},
		Lines:  []api.Line{{Sec: secText, At: 0, File: "a b.c", Line: 1}, {Sec: secText, At: 88, File: "x.c", Line: 1 << 20}, {Sec: secCode, At: 8, File: "x.c", Line: 7}},
		Inlines: []api.Inline{
			{Sec: secText, From: 0, To: 96, Name: "f", File: "f.c", Line: 1},
			{Sec: secText, From: 8, To: 40, Name: "g", File: "f.c", Line: 2},
			{Sec: secText, From: 8, To: 40, Name: "g", File: "f.c", Line: 2},
			{Sec: secText, From: 16, To: 24, Name: "h", File: "f c", Line: 3},
			{Sec: secText, From: 40, To: 48, Name: "g", File: "f.c", Line: 4},
			{Sec: secCode, From: 0, To: 24, Name: "g", File: "f.c", Line: 5},
		},
		Vars: []api.Var{
			{Sec: secText, From: 0, To: 8, Name: "i", Where: api.LoReg, N: 15},
			{Sec: secText, From: 0, To: 16, Name: "i", Where: api.LoStack, N: 1016},
			{Sec: secText, From: 0, To: 16, Name: "j", Where: api.LoSym, N: symLocal},
			{Sec: secCode, From: 0, To: 8, Name: "i", Where: api.LoSym, N: symRefData},
		},
		Depths: []api.Depth{{Sec: secText, From: 0, To: 8}, {Sec: secText, From: 8, To: 96, Bytes: 1016}, {Sec: secCode, From: 8, To: 24, Bytes: 8}},
		Converts: []api.Convert{
			{Sec: secData, From: strings.Repeat("d", 32), Pieces: []api.Piece{{From: 1<<20 - 16, Size: 16, To: 0}, {From: 0, Size: 8, To: 16}, {From: 4, Size: 8, To: 24}}, Code: symMain},
			{Sec: secData, From: strings.Repeat("e", 32), Code: -1},
			{Sec: secMore, From: strings.Repeat("\x00", 32), Pieces: []api.Piece{{From: 0, Size: 1, To: 15}}, Code: symRef},
		},
	}
}

// small returns a right object with two sections of code with 24 bytes and two of data with 16 bytes, and the symbols f and g (code) and d (data).
func small() api.Object {
	call, nop := instruction(api.OpCall, 0, 0, 0), instruction(api.OpNop, 0, 0, 0)
	return api.Object{
		Name: "o",
		Secs: []api.Section{
			{Name: "a", Kind: api.SkCode, Align: 8, Size: 24, Bytes: call + call + nop},
			{Name: "b", Kind: api.SkCode, Align: 8, Size: 24, Bytes: nop + call + call},
			{Name: "c", Kind: api.SkData, Align: 8, Size: 16, Bytes: strings.Repeat("c", 16)},
			{Name: "d", Kind: api.SkData, Align: 8, Size: 16, Bytes: strings.Repeat("d", 16)},
		},
		Syms: []api.Symbol{
			{Name: "f", Bind: api.BdGlobal, Sec: 0},
			{Name: "g", Bind: api.BdGlobal, Sec: -1},
			{Name: "d", Bind: api.BdGlobal, Kind: api.SyData, Sec: 2},
		},
	}
}

// clone returns a copy of an object that shares no memory with it; empty lists are nil.
func clone(o api.Object) api.Object {
	return cloneOf(reflect.ValueOf(o)).Interface().(api.Object)
}

// cloneOf returns a copy of a value.
func cloneOf(v reflect.Value) reflect.Value {
	out := reflect.New(v.Type()).Elem()
	switch v.Kind() {
	case reflect.Struct:
		for i := range v.NumField() {
			out.Field(i).Set(cloneOf(v.Field(i)))
		}
	case reflect.Slice:
		for i := range v.Len() {
			out.Set(reflect.Append(out, cloneOf(v.Index(i))))
		}
	default:
		out.Set(v)
	}
	return out
}

// same reports whether two objects are equal (an empty list may be nil or not).
func same(a, b api.Object) bool {
	return reflect.DeepEqual(clone(a), clone(b))
}

// modelNum, modelInt and modelText are encodings of layer 2.
func modelNum(n int) string {
	if n < 0 {
		return ""
	}
	return string(binary.AppendUvarint(nil, uint64(n)))
}

func modelInt(n int) string { return string(binary.AppendVarint(nil, int64(n))) }

func modelText(s string) string { return modelNum(len(s)) + s }

// signed tells whether a field is encoded by wire.Int.
func signed(t reflect.Type, field string) bool {
	switch field {
	case "Sec":
		return t == reflect.TypeFor[api.Symbol]()
	case "Add":
		return t == reflect.TypeFor[api.Rel]()
	case "Order":
		return t == reflect.TypeFor[api.Init]()
	case "Code":
		return t == reflect.TypeFor[api.Convert]()
	}
	return false
}

// modelBytes is the encoding of a value, whose fields are encoded in the order of package api.
func modelBytes(v reflect.Value, asInt bool) string {
	switch v.Kind() {
	case reflect.String:
		return modelText(v.String())
	case reflect.Bool:
		if v.Bool() {
			return modelNum(1)
		}
		return modelNum(0)
	case reflect.Int:
		n := int(v.Int())
		if asInt {
			return modelInt(n)
		}
		return modelNum(n)
	case reflect.Slice:
		s := modelNum(v.Len())
		for i := range v.Len() {
			s += modelBytes(v.Index(i), true)
		}
		return s
	case reflect.Struct:
		s := ""
		for i := range v.NumField() {
			s += modelBytes(v.Field(i), signed(v.Type(), v.Type().Field(i).Name))
		}
		return s
	}
	panic("a field without an encoding")
}

// encoded is the encoding of an object that need not be right.
func encoded(o api.Object) string { return modelBytes(reflect.ValueOf(o), false) }

// modelRead returns the object whose encoding s is, or false if there is none.
func modelRead(s string) (api.Object, bool) {
	var o api.Object
	rest, ok := readInto(reflect.ValueOf(&o).Elem(), s, false)
	if !ok || rest != "" || encoded(o) != s || !modelRight(o) {
		return api.Object{}, false
	}
	return o, true
}

// readInto reads a value from the beginning of s, and returns the rest of s.
func readInto(v reflect.Value, s string, asInt bool) (string, bool) {
	if v.Kind() == reflect.Struct {
		ok := true
		for i := 0; i < v.NumField() && ok; i++ {
			s, ok = readInto(v.Field(i), s, signed(v.Type(), v.Type().Field(i).Name))
		}
		return s, ok
	}
	n, size := binary.Uvarint([]byte(s[:min(len(s), 10)]))
	if size <= 0 {
		return "", false
	}
	rest := s[size:]
	switch v.Kind() {
	case reflect.String:
		if n > uint64(len(rest)) {
			return "", false
		}
		v.SetString(rest[:n])
		return rest[n:], true
	case reflect.Bool:
		v.SetBool(n != 0)
	case reflect.Int:
		v.SetInt(int64(n))
		if asInt {
			n, _ := binary.Varint([]byte(s[:size]))
			v.SetInt(n)
		}
	case reflect.Slice:
		for range n {
			x := reflect.New(v.Type().Elem()).Elem()
			var ok bool
			if rest, ok = readInto(x, rest, true); !ok {
				return "", false
			}
			v.Set(reflect.Append(v, x))
		}
	}
	return rest, true
}

// atMost tells whether a sum is at most a number, calculated exactly.
func atMost(a, b, most int) bool {
	sum := new(big.Int).Add(big.NewInt(int64(a)), big.NewInt(int64(b)))
	return sum.Cmp(big.NewInt(int64(most))) <= 0
}

// in tells whether a number is from one number to another.
func in(n, from, to int) bool { return from <= n && n <= to }

// modelName and modelFile tell whether a string is a name or a file name: they have only characters that are written out here.
func modelName(s string) bool {
	return consists(s, "!\"#$%&'()*+,-./0123456789:;<=>?@ABCDEFGHIJKLMNOPQRSTUVWXYZ[\\]^_`abcdefghijklmnopqrstuvwxyz{|}~")
}

func modelFile(s string) bool {
	return consists(s, " !#$%&'()*+,-./0123456789:;<=>?@ABCDEFGHIJKLMNOPQRSTUVWXYZ[]^_`abcdefghijklmnopqrstuvwxyz{|}~")
}

func consists(s, characters string) bool {
	for _, b := range []byte(s) {
		if !slices.Contains([]byte(characters), b) {
			return false
		}
	}
	return in(len(s), 1, 64)
}

// modelPower tells whether a number is a power.
func modelPower(n int) bool {
	return slices.Contains([]int{1, 2, 4, 8, 16, 32, 64, 128, 256}, n)
}

// modelWidths has the widths of the kinds of relocations.
var modelWidths = map[int]int{
	api.RkWord: 8, api.RkDiff: 8, api.RkDiff4: 4, api.RkDelta: 2, api.RkSize: 8, api.RkAddr: 8, api.RkCall: 8, api.RkSlot: 8,
	api.RkLow: 8, api.RkHigh: 8, api.RkTls: 8, api.RkModule: 8, api.RkOffset: 8,
}

// modelOps has the Ops of the instructions for the kinds of relocations in instructions.
var modelOps = map[int][]int{
	api.RkAddr: {api.OpAddr, api.OpJump, api.OpZero, api.OpNonzero},
	api.RkCall: {api.OpCall},
	api.RkSlot: {api.OpCallSlot, api.OpJumpSlot},
	api.RkLow:  {api.OpSet},
	api.RkHigh: {api.OpHigh},
	api.RkTls:  {api.OpAddImm, api.OpSet},
}

// modelRight tells whether an object is right: all that the chapter lists holds.
func modelRight(o api.Object) bool {
	return modelName(o.Name) && modelSecs(o) && modelSyms(o) && modelRels(o) && modelGroups(o) && modelInits(o) &&
		modelLines(o) && modelInlines(o) && modelVars(o) && modelDepths(o) && modelConverts(o)
}

// pairs tells whether something holds for all pairs of elements of a list, the earlier one first.
func pairs[T any](l []T, holds func(earlier, later T) bool) bool {
	for i, x := range l {
		for _, y := range l[i+1:] {
			if !holds(x, y) {
				return false
			}
		}
	}
	return true
}

// all tells whether something holds for all elements of a list.
func all[T any](l []T, holds func(T) bool) bool {
	return !slices.ContainsFunc(l, func(x T) bool { return !holds(x) })
}

func modelSecs(o api.Object) bool {
	return len(o.Secs) <= 1024 && pairs(o.Secs, func(a, b api.Section) bool { return a.Name != b.Name }) && all(o.Secs, func(s api.Section) bool {
		size := 0
		if s.Kind == api.SkCode || s.Kind == api.SkData || s.Kind == api.SkTls {
			size = s.Size
		}
		code := s.Kind != api.SkCode || s.Align >= 8 && s.Size%8 == 0
		return modelName(s.Name) && in(s.Kind, 0, 4) && modelPower(s.Align) && in(s.Size, 0, 1048576) && len(s.Bytes) == size && code
	})
}

func modelSyms(o api.Object) bool {
	return len(o.Syms) <= 4096 && pairs(o.Syms, func(a, b api.Symbol) bool { return a.Name != b.Name || a.Version != b.Version }) && all(o.Syms, func(s api.Symbol) bool {
		return modelName(s.Name) && (s.Version == "" || modelName(s.Version)) && in(s.Bind, 0, 3) && in(s.Vis, 0, 2) && in(s.Kind, 0, 2) &&
			(modelDefinition(o, s) || modelCommon(s) || modelReference(s))
	})
}

func modelDefinition(o api.Object, s api.Symbol) bool {
	if !in(s.Sec, 0, len(o.Secs)-1) {
		return false
	}
	kinds := map[int][]int{api.SyCode: {api.SkCode}, api.SyData: {api.SkData, api.SkZero}, api.SyTls: {api.SkTls, api.SkTlsZero}}[s.Kind]
	sec := o.Secs[s.Sec]
	if !slices.Contains(kinds, sec.Kind) || s.At < 0 || s.Size < 0 || !atMost(s.At, s.Size, sec.Size) || s.Kind == api.SyCode && s.At%8 != 0 {
		return false
	}
	if s.Align != 0 || s.Bind == api.BdCommon || s.Bind == api.BdLocal && (s.Version != "" || s.Vis != api.ViDefault) {
		return false
	}
	return !s.Main || s.Version != ""
}

func modelCommon(s api.Symbol) bool {
	return s.Bind == api.BdCommon && s.Sec == -1 && s.Kind == api.SyData && s.Version == "" && !s.Main && s.At == 0 && in(s.Size, 1, 1048576) && modelPower(s.Align)
}

func modelReference(s api.Symbol) bool {
	return (s.Bind == api.BdGlobal || s.Bind == api.BdWeak) && s.Sec == -1 && !s.Main && s.At == 0 && s.Size == 0 && s.Align == 0
}

func modelRels(o api.Object) bool {
	ordered := pairs(o.Rels, func(a, b api.Rel) bool {
		return a.Sec < b.Sec || a.Sec == b.Sec && a.At <= b.At && atMost(a.At, modelWidths[a.Kind], b.At)
	})
	return ordered && all(o.Rels, func(r api.Rel) bool {
		if !in(r.Sec, 0, len(o.Secs)-1) || !in(r.Kind, 0, 12) || !in(r.Sym, 0, len(o.Syms)-1) || !in(r.Add, -2147483648, 2147483647) {
			return false
		}
		sec, width := o.Secs[r.Sec], modelWidths[r.Kind]
		if r.At < 0 || !atMost(r.At, width-1, sec.Size-1) {
			return false
		}
		if ops, ok := modelOps[r.Kind]; ok {
			if sec.Kind != api.SkCode || r.At%8 != 0 || len(sec.Bytes) < r.At+8 {
				return false
			}
			i, ok := isa.Decode(sec.Bytes[r.At:r.At+8], 0)
			return ok && slices.Contains(ops, i.Op)
		}
		return sec.Kind == api.SkData && sec.Align >= width && r.At%width == 0
	})
}

func modelGroups(o api.Object) bool {
	different := pairs(o.Groups, func(a, b api.Group) bool {
		return a.Name != b.Name && all(a.Secs, func(s int) bool { return !slices.Contains(b.Secs, s) })
	})
	return different && all(o.Groups, func(g api.Group) bool {
		return modelName(g.Name) && len(g.Secs) > 0 && pairs(g.Secs, func(a, b int) bool { return a < b }) && all(g.Secs, func(s int) bool { return in(s, 0, len(o.Secs)-1) })
	})
}

// modelSym tells whether a number is the index of a symbol of a kind.
func modelSym(o api.Object, n, kind int) bool {
	return in(n, 0, len(o.Syms)-1) && o.Syms[n].Kind == kind
}

// modelSec tells whether a number is the index of a section of a kind.
func modelSec(o api.Object, n, kind int) bool {
	return in(n, 0, len(o.Secs)-1) && o.Secs[n].Kind == kind
}

// modelRange tells whether a range is right.
func modelRange(o api.Object, sec, from, to int) bool {
	return modelSec(o, sec, api.SkCode) && 0 <= from && from < to && to <= o.Secs[sec].Size && from%8 == 0 && to%8 == 0
}

func modelInits(o api.Object) bool {
	return all(o.Inits, func(x api.Init) bool { return modelSym(o, x.Sym, api.SyCode) && in(x.Order, -1048576, 1048576) })
}

func modelLines(o api.Object) bool {
	ordered := pairs(o.Lines, func(a, b api.Line) bool { return a.Sec < b.Sec || a.Sec == b.Sec && a.At < b.At })
	return ordered && all(o.Lines, func(l api.Line) bool {
		return modelSec(o, l.Sec, api.SkCode) && in(l.At, 0, o.Secs[l.Sec].Size-1) && l.At%8 == 0 && modelFile(l.File) && in(l.Line, 1, 1048576)
	})
}

func modelInlines(o api.Object) bool {
	ordered := pairs(o.Inlines, func(a, b api.Inline) bool {
		if a.Sec != b.Sec {
			return a.Sec < b.Sec
		}
		if a.From > b.From || a.From == b.From && a.To < b.To {
			return false
		}
		disjoint := a.To <= b.From || b.To <= a.From
		return disjoint || a.From <= b.From && b.To <= a.To
	})
	return ordered && all(o.Inlines, func(x api.Inline) bool {
		return modelRange(o, x.Sec, x.From, x.To) && modelName(x.Name) && modelFile(x.File) && in(x.Line, 1, 1048576)
	})
}

func modelVars(o api.Object) bool {
	ordered := pairs(o.Vars, func(a, b api.Var) bool {
		if a.Sec != b.Sec {
			return a.Sec < b.Sec
		}
		if a.From != b.From {
			return a.From < b.From
		}
		if a.To != b.To {
			return a.To < b.To
		}
		return a.Name < b.Name
	})
	return ordered && all(o.Vars, func(v api.Var) bool {
		where := v.Where == api.LoReg && in(v.N, 0, 15) || v.Where == api.LoStack && v.N%8 == 0 && in(v.N, 0, 1016) || v.Where == api.LoSym && modelSym(o, v.N, api.SyData)
		return modelRange(o, v.Sec, v.From, v.To) && modelName(v.Name) && where
	})
}

func modelDepths(o api.Object) bool {
	ordered := pairs(o.Depths, func(a, b api.Depth) bool {
		return a.Sec < b.Sec || a.Sec == b.Sec && a.From <= b.From && (a.To <= b.From || b.To <= a.From)
	})
	return ordered && all(o.Depths, func(d api.Depth) bool {
		return modelRange(o, d.Sec, d.From, d.To) && d.Bytes%8 == 0 && in(d.Bytes, 0, 1016)
	})
}

func modelConverts(o api.Object) bool {
	ordered := pairs(o.Converts, func(a, b api.Convert) bool { return a.Sec < b.Sec || a.Sec == b.Sec && a.From < b.From })
	return ordered && all(o.Converts, func(c api.Convert) bool {
		if !modelSec(o, c.Sec, api.SkData) || len(c.From) != 32 || c.Code != -1 && !modelSym(o, c.Code, api.SyCode) {
			return false
		}
		for i, x := range c.Pieces {
			if x.From < 0 || x.To < 0 || x.Size < 1 || !atMost(x.From, x.Size, 1048576) || !atMost(x.To, x.Size, o.Secs[c.Sec].Size) {
				return false
			}
			if i > 0 && !atMost(c.Pieces[i-1].To, c.Pieces[i-1].Size, x.To) {
				return false
			}
		}
		return true
	})
}

// modelForm returns what Form digests: a byte is 0 if a relocation writes it.
func modelForm(o api.Object, sec int) string {
	s := o.Secs[sec]
	b := []byte(s.Bytes)
	for i := range b {
		for _, r := range o.Rels {
			width, ok := modelWidths[r.Kind]
			if !ok || r.Sec != sec || r.At < 0 || !atMost(r.At, width, len(b)) {
				continue
			}
			from := r.At
			if _, ok := modelOps[r.Kind]; ok {
				from += 4
			}
			if from <= i && i < r.At+width {
				b[i] = 0
			}
		}
	}
	return modelNum(s.Kind) + modelNum(s.Align) + modelNum(s.Size) + modelText(string(b))
}
