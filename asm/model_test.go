package asm

import (
	"encoding/binary"
	"encoding/hex"
	"fmt"
	"math/big"
	"reflect"
	"regexp"
	"slices"
	"strings"
	"sync"

	"linchpin/api"
	"linchpin/isa"
	"linchpin/object"
)

// random returns a function that returns numbers below a bound, the same ones each time.
func random(seed uint64) func(bound int) int {
	return func(bound int) int {
		seed = seed*6364136223846793005 + 1442695040888963407
		return int(seed>>33) % bound
	}
}

// modelForms are the forms of the chapter's table.
var modelForms = []string{
	"object NAME",
	"section NAME PLACE N [keep]",
	"bytes HEX",
	"word N",
	"space N",
	"here LABEL",
	"rel REL N SYM",
	"def BIND VIS KIND S N N SYM",
	"main BIND VIS KIND S N N SYM",
	"label BIND VIS KIND N SYM",
	"common VIS N N NAME",
	"ref BIND VIS KIND SYM",
	"group NAME S ..",
	"init N SYM",
	"last N SYM",
	"line S N N FILE",
	"inline S N N N NAME FILE",
	"var S N N reg N NAME",
	"var S N N stack N NAME",
	"var S N N sym NAME SYM",
	"depth S N N N",
	"convert S HEX",
	"piece N N N",
	"by SYM",
}

var modelMnemonics = strings.Fields("nop safe set high move add sub mul and or less same addi addr load byte store put jump zero nonzero call callr calls jumps return push pop tls sys")

// modelTerms are the words that stand for constants.
var modelTerms = map[string]map[string]int{
	"PLACE": {"code": api.SkCode, "data": api.SkData, "zero": api.SkZero, "tls": api.SkTls, "tlszero": api.SkTlsZero},
	"BIND":  {"local": api.BdLocal, "global": api.BdGlobal, "weak": api.BdWeak},
	"VIS":   {"default": api.ViDefault, "protected": api.ViProtected, "hidden": api.ViHidden},
	"KIND":  {"code": api.SyCode, "data": api.SyData, "tls": api.SyTls},
	"REL": {
		"word": api.RkWord, "diff": api.RkDiff, "diff4": api.RkDiff4, "delta": api.RkDelta, "size": api.RkSize, "addr": api.RkAddr, "call": api.RkCall,
		"slot": api.RkSlot, "low": api.RkLow, "high": api.RkHigh, "tls": api.RkTls, "module": api.RkModule, "offset": api.RkOffset,
	},
}

var (
	modelWord   = regexp.MustCompile(`[^ \t]+`)
	modelNumber = regexp.MustCompile(`^(0|-?[1-9][0-9]*)$`)
	modelLabel  = regexp.MustCompile(`^[0-9A-Z_a-z]+$`)
	modelHex    = regexp.MustCompile(`^([0-9a-f][0-9a-f])+$`)
)

// modelLine is a line that is not blank, with what its words stand for, and what precedes it.
type modelLine struct {
	n     int
	text  string
	form  string // "" if it is not well formed; "instruction" for an instruction
	nums  []int
	terms map[string]int
	name  string
	secs  []string
	sym   api.SymName
	hex   string
	label string
	file  string
	keep  bool

	sec, at int  // the current section and its size
	size    int  // the bytes that it would add
	full    bool // there is no room for them
	convert int  // the number of converters before it
}

// match tells whether a line has a form, and sets what its words stand for.
func (l *modelLine) match(form string) bool {
	*l = modelLine{text: l.text, form: form, terms: map[string]int{}}
	at := modelWord.FindAllStringIndex(l.text, -1)
	next := func() string {
		if len(at) == 0 {
			return ""
		}
		w := l.text[at[0][0]:at[0][1]]
		at = at[1:]
		return w
	}
	behind := 0 // the end of the last word
	tokens := strings.Fields(form)
	for i, token := range tokens {
		if token == "FILE" {
			if len(l.text) < behind+2 {
				return false
			}
			l.file, at = l.text[behind+1:], nil
			break
		}
		if token == "[keep]" && len(at) == 0 {
			break
		}
		if token == ".." {
			for len(at) > 0 {
				l.secs = append(l.secs, next())
			}
			break
		}
		if len(at) == 0 {
			return false
		}
		behind = at[0][1]
		if !l.token(token, next(), i) {
			return false
		}
		if token == "SYM" {
			l.sym.Version = next()
		}
	}
	return len(at) == 0
}

// token tells whether a word is one that a form has in a place, and sets what it stands for.
func (l *modelLine) token(token, w string, i int) bool {
	switch token {
	case "N":
		n, ok := new(big.Int).SetString(w, 10)
		if !ok || !modelNumber.MatchString(w) || !n.IsInt64() {
			return false
		}
		l.nums = append(l.nums, int(n.Int64()))
		return true
	case "NAME":
		l.name = w
		return true
	case "S":
		l.secs = append(l.secs, w)
		return true
	case "SYM":
		l.sym.Name = w
		return true
	case "HEX":
		b, _ := hex.DecodeString(w)
		l.hex = string(b)
		return modelHex.MatchString(w)
	case "LABEL":
		l.label = w
		return modelLabel.MatchString(w)
	case "[keep]":
		l.keep = true
		return w == "keep"
	}
	if terms, ok := modelTerms[token]; ok {
		n, ok := terms[w]
		l.terms[token] = n
		return ok
	}
	return token == w
}

// instruction tells whether a line is an instruction.
func (l *modelLine) instruction() bool {
	*l = modelLine{text: l.text, form: "instruction"}
	if !slices.Contains(modelMnemonics, modelWord.FindString(l.text)) {
		return false
	}
	text := l.text
	if parts := strings.Split(text, "@"); len(parts) > 1 {
		last := parts[len(parts)-1]
		l.label = strings.Trim(last, " \t")
		if !modelLabel.MatchString(l.label) {
			return false
		}
		text = strings.TrimSuffix(text, "@"+last) + "0"
	}
	_, e := isa.Parse(text)
	return e == api.OK || e == api.ErrRange
}

// modelFormed has the lines that have been read by themselves, which the tests repeat very often, several of them at the same time.
var modelFormed sync.Map

// modelForm returns a line with what its words stand for, whatever precedes it.
func modelForm(text string) modelLine {
	if l, ok := modelFormed.Load(text); ok {
		return l.(modelLine)
	}
	l := modelLine{text: text}
	found := l.instruction()
	for _, form := range modelForms {
		if !found && strings.HasPrefix(form, modelWord.FindString(text)+" ") {
			found = l.match(form)
		}
	}
	if !found {
		l = modelLine{text: text}
	}
	modelFormed.Store(text, l)
	return l
}

// first is the word with which the form of a line begins, or "" if it is not well formed.
func (l *modelLine) first() string {
	w, _, _ := strings.Cut(l.form, " ")
	return w
}

// modelRead returns the lines of a text that are not blank.
func modelRead(s string) []modelLine {
	var lines []modelLine
	kinds, sizes := []int{}, []int{}
	converts := 0
	for i, text := range strings.Split(s, "\n") {
		w := modelWord.FindString(text)
		if w == "" || w[0] == '#' {
			continue
		}
		l := modelForm(text)
		l.n = i + 1
		kind := -1
		l.sec, l.convert = len(kinds)-1, converts
		if l.sec >= 0 {
			kind, l.at = kinds[l.sec], sizes[l.sec]
		}
		if l.form != "" && !l.fits(len(lines) == 0, kind) {
			l.form = ""
		}
		switch l.first() {
		case "section":
			kinds, sizes = append(kinds, l.terms["PLACE"]), append(sizes, 0)
		case "instruction", "word":
			l.size = 8
		case "bytes":
			l.size = len(l.hex)
		case "space":
			l.size = l.nums[0]
		case "convert":
			converts++
		}
		if l.size > 0 {
			l.full = l.at+l.size > 1048576
			if !l.full {
				sizes[l.sec] += l.size
			}
		}
		lines = append(lines, l)
	}
	return lines
}

// fits tells whether a line may stand behind the lines before it: as the first one, or in a section of a kind (-1: in none).
func (l *modelLine) fits(first bool, kind int) bool {
	if first != (l.first() == "object") {
		return false
	}
	switch l.first() {
	case "instruction":
		return kind == api.SkCode
	case "bytes", "word":
		return kind == api.SkCode || kind == api.SkData || kind == api.SkTls
	case "space":
		return kind >= 0 && 0 <= l.nums[0] && l.nums[0] <= 1048576
	case "here", "rel", "label":
		return kind >= 0
	case "piece", "by":
		return l.convert > 0
	}
	return true
}

// declares returns a word for what a line declares, or nil.
func (l *modelLine) declares() any {
	switch l.first() {
	case "section":
		return "section " + l.name
	case "def", "main", "label", "ref":
		return l.sym
	case "common":
		return api.SymName{Name: l.name}
	case "here":
		return [2]any{l.sec, l.label}
	}
	return nil
}

// refers returns words for what a line refers to.
func (l *modelLine) refers() []any {
	var all []any
	for _, sec := range l.secs {
		all = append(all, "section "+sec)
	}
	switch l.first() {
	case "init", "last", "rel", "by":
		all = append(all, l.sym)
	case "var":
		if l.sym.Name != "" {
			all = append(all, l.sym)
		}
	case "instruction":
		if strings.Contains(l.text, "@") {
			all = append(all, [2]any{l.sec, l.label})
		}
	}
	return all
}

// declaring returns the first of the lines that declares something, or nil if none does.
func declaring(lines []modelLine, what any) *modelLine {
	for i := range lines {
		if lines[i].declares() == what {
			return &lines[i]
		}
	}
	return nil
}

// encoded returns the bytes of an instruction, or false if it is not accepted.
func (l *modelLine) encoded(lines []modelLine) (string, bool) {
	text := l.text
	if i := strings.LastIndex(text, "@"); i >= 0 {
		text = fmt.Sprint(text[:i], declaring(lines, [2]any{l.sec, l.label}).at-l.at)
	}
	ins, e := isa.Parse(text)
	b := []byte{byte(ins.Op), byte(ins.A), byte(ins.B), byte(ins.C)}
	return string(binary.LittleEndian.AppendUint32(b, uint32(ins.Imm))), e == api.OK
}

// error returns the error of a line.
func (l *modelLine) error(lines []modelLine) api.Errno {
	if l.form == "" {
		return api.ErrForm
	}
	if what := l.declares(); what != nil && declaring(lines, what).n < l.n {
		return api.ErrTwice
	}
	if l.full {
		return api.ErrFull
	}
	for _, what := range l.refers() {
		if declaring(lines, what) == nil {
			return api.ErrName
		}
	}
	if l.form == "instruction" {
		if _, ok := l.encoded(lines); !ok {
			return api.ErrRange
		}
	}
	return api.OK
}

// modelParse is Parse.
func modelParse(s string) (api.Object, api.Errno, int) {
	lines := modelRead(s)
	if len(lines) == 0 {
		return api.Object{}, api.ErrForm, 0
	}
	for _, l := range lines {
		if e := l.error(lines); e != api.OK {
			return api.Object{}, e, l.n
		}
	}
	o := modelObject(lines)
	if !object.Right(o) {
		return api.Object{}, api.ErrArg, 0
	}
	return o, api.OK, 0
}

// modelObject returns the object that lines without errors describe.
func modelObject(lines []modelLine) api.Object {
	var o api.Object
	secs, syms := map[string]int{}, map[api.SymName]int{}
	for _, l := range lines {
		switch l.first() {
		case "section":
			secs[l.name] = len(secs)
		case "def", "main", "label", "common", "ref":
			syms[l.declares().(api.SymName)] = len(syms)
		}
	}
	for _, l := range lines {
		l.addTo(&o, lines, secs, syms)
	}
	return o
}

// addTo adds to an object what a line means.
func (l *modelLine) addTo(o *api.Object, lines []modelLine, secs map[string]int, syms map[api.SymName]int) {
	sec, sym := -1, syms[l.sym]
	if len(l.secs) > 0 {
		sec = secs[l.secs[0]]
	}
	n := [3]int{}
	copy(n[:], l.nums)
	s := api.Symbol{Name: l.sym.Name, Version: l.sym.Version, Bind: l.terms["BIND"], Vis: l.terms["VIS"], Kind: l.terms["KIND"], Sec: -1}
	switch l.form {
	case "object NAME":
		o.Name = l.name
	case "section NAME PLACE N [keep]":
		o.Secs = append(o.Secs, api.Section{Name: l.name, Kind: l.terms["PLACE"], Align: n[0], Keep: l.keep})
	case "bytes HEX":
		l.put(o, l.hex)
	case "word N":
		l.put(o, string(binary.LittleEndian.AppendUint64(nil, uint64(n[0]))))
	case "space N":
		l.put(o, strings.Repeat("\x00", n[0]))
	case "instruction":
		text, _ := l.encoded(lines)
		l.put(o, text)
	case "rel REL N SYM":
		o.Rels = append(o.Rels, api.Rel{Sec: l.sec, At: l.at, Kind: l.terms["REL"], Sym: sym, Add: n[0]})
	case "def BIND VIS KIND S N N SYM", "main BIND VIS KIND S N N SYM":
		s.Sec, s.At, s.Size, s.Main = sec, n[0], n[1], l.first() == "main"
		o.Syms = append(o.Syms, s)
	case "label BIND VIS KIND N SYM":
		s.Sec, s.At, s.Size = l.sec, l.at, n[0]
		o.Syms = append(o.Syms, s)
	case "common VIS N N NAME":
		o.Syms = append(o.Syms, api.Symbol{Name: l.name, Bind: api.BdCommon, Vis: l.terms["VIS"], Kind: api.SyData, Sec: -1, Size: n[0], Align: n[1]})
	case "ref BIND VIS KIND SYM":
		o.Syms = append(o.Syms, s)
	case "group NAME S ..":
		g := api.Group{Name: l.name}
		for _, name := range l.secs {
			g.Secs = append(g.Secs, secs[name])
		}
		slices.Sort(g.Secs)
		o.Groups = append(o.Groups, g)
	case "init N SYM", "last N SYM":
		o.Inits = append(o.Inits, api.Init{Sym: sym, Order: n[0], Last: l.first() == "last"})
	case "line S N N FILE":
		o.Lines = append(o.Lines, api.Line{Sec: sec, At: n[0], File: l.file, Line: n[1]})
	case "inline S N N N NAME FILE":
		o.Inlines = append(o.Inlines, api.Inline{Sec: sec, From: n[0], To: n[1], Name: l.name, File: l.file, Line: n[2]})
	case "var S N N reg N NAME":
		o.Vars = append(o.Vars, api.Var{Sec: sec, From: n[0], To: n[1], Name: l.name, Where: api.LoReg, N: n[2]})
	case "var S N N stack N NAME":
		o.Vars = append(o.Vars, api.Var{Sec: sec, From: n[0], To: n[1], Name: l.name, Where: api.LoStack, N: n[2]})
	case "var S N N sym NAME SYM":
		o.Vars = append(o.Vars, api.Var{Sec: sec, From: n[0], To: n[1], Name: l.name, Where: api.LoSym, N: sym})
	case "depth S N N N":
		o.Depths = append(o.Depths, api.Depth{Sec: sec, From: n[0], To: n[1], Bytes: n[2]})
	case "convert S HEX":
		o.Converts = append(o.Converts, api.Convert{Sec: sec, From: l.hex, Code: -1})
	case "piece N N N":
		c := &o.Converts[l.convert-1]
		c.Pieces = append(c.Pieces, api.Piece{From: n[0], Size: n[1], To: n[2]})
	case "by SYM":
		o.Converts[l.convert-1].Code = sym
	}
}

// put puts bytes at the end of the current section of a line.
func (l *modelLine) put(o *api.Object, bytes string) {
	s := &o.Secs[l.sec]
	s.Size += len(bytes)
	if s.Kind != api.SkZero && s.Kind != api.SkTlsZero {
		s.Bytes += bytes
	}
}

// modelTerm returns the word that stands for a constant.
func modelTerm(token string, n int) string {
	for w, m := range modelTerms[token] {
		if m == n {
			return w
		}
	}
	panic("no word for a constant")
}

// modelWrite is Write.
func modelWrite(o api.Object) string {
	if !object.Right(o) {
		return ""
	}
	sec := func(i int) string { return o.Secs[i].Name }
	sym := func(i int) string {
		return strings.TrimSuffix(fmt.Sprintf("%s %s", o.Syms[i].Name, o.Syms[i].Version), " ")
	}
	l := []string{"object " + o.Name}
	add := func(format string, args ...any) { l = append(l, fmt.Sprintf(format, args...)) }
	for i, s := range o.Secs {
		add("section %s %s %d%s", s.Name, modelTerm("PLACE", s.Kind), s.Align, map[bool]string{true: " keep"}[s.Keep])
		l = append(l, modelContents(o, i, sym)...)
	}
	for i, s := range o.Syms {
		vis, kind := modelTerm("VIS", s.Vis), modelTerm("KIND", s.Kind)
		if s.Bind == api.BdCommon {
			add("common %s %d %d %s", vis, s.Size, s.Align, s.Name)
			continue
		}
		bind := modelTerm("BIND", s.Bind)
		if s.Sec < 0 {
			add("ref %s %s %s %s", bind, vis, kind, sym(i))
			continue
		}
		add("%s %s %s %s %s %d %d %s", map[bool]string{false: "def", true: "main"}[s.Main], bind, vis, kind, sec(s.Sec), s.At, s.Size, sym(i))
	}
	for _, g := range o.Groups {
		line := "group " + g.Name
		for _, i := range g.Secs {
			line += " " + sec(i)
		}
		l = append(l, line)
	}
	for _, x := range o.Inits {
		add("%s %d %s", map[bool]string{false: "init", true: "last"}[x.Last], x.Order, sym(x.Sym))
	}
	for _, x := range o.Lines {
		add("line %s %d %d %s", sec(x.Sec), x.At, x.Line, x.File)
	}
	for _, x := range o.Inlines {
		add("inline %s %d %d %d %s %s", sec(x.Sec), x.From, x.To, x.Line, x.Name, x.File)
	}
	for _, v := range o.Vars {
		where := []string{fmt.Sprintf("reg %d %s", v.N, v.Name), fmt.Sprintf("stack %d %s", v.N, v.Name), "sym " + v.Name}[v.Where]
		if v.Where == api.LoSym {
			where += " " + sym(v.N)
		}
		add("var %s %d %d %s", sec(v.Sec), v.From, v.To, where)
	}
	for _, d := range o.Depths {
		add("depth %s %d %d %d", sec(d.Sec), d.From, d.To, d.Bytes)
	}
	for _, c := range o.Converts {
		add("convert %s %x", sec(c.Sec), c.From)
		for _, x := range c.Pieces {
			add("piece %d %d %d", x.From, x.Size, x.To)
		}
		if c.Code != -1 {
			add("by %s", sym(c.Code))
		}
	}
	return strings.Join(l, "\n") + "\n"
}

// modelContents returns the lines of the contents of a section.
func modelContents(o api.Object, sec int, sym func(int) string) []string {
	s := o.Secs[sec]
	if s.Kind == api.SkZero || s.Kind == api.SkTlsZero {
		if s.Size == 0 {
			return nil
		}
		return []string{fmt.Sprint("space ", s.Size)}
	}
	rels := map[int]api.Rel{}
	for _, r := range o.Rels {
		if r.Sec == sec {
			rels[r.At] = r
		}
	}
	var l []string
	pending := ""
	flush := func() {
		if pending != "" {
			l = append(l, fmt.Sprintf("bytes %x", pending))
		}
		pending = ""
	}
	for at := range len(s.Bytes) {
		if r, ok := rels[at]; ok {
			flush()
			l = append(l, fmt.Sprintf("rel %s %d %s", modelTerm("REL", r.Kind), r.Add, sym(r.Sym)))
		}
		pending += s.Bytes[at : at+1]
		if len(pending) == 16 {
			flush()
		}
		if s.Kind == api.SkCode && len(pending) == 8 {
			if i, ok := isa.Decode(pending, 0); ok {
				l = append(l, isa.Text(i))
				pending = ""
			}
			flush()
		}
	}
	flush()
	return l
}

// clone returns a copy of an object that shares no memory with it; empty lists are nil.
func clone(o api.Object) api.Object {
	return cloneOf(reflect.ValueOf(o)).Interface().(api.Object)
}

// cloneOf returns a copy of a value.
func cloneOf(v reflect.Value) reflect.Value {
	out := reflect.New(v.Type()).Elem()
	switch v.Kind() {
	case reflect.Struct:
		for i := range v.NumField() {
			out.Field(i).Set(cloneOf(v.Field(i)))
		}
	case reflect.Slice:
		for i := range v.Len() {
			out.Set(reflect.Append(out, cloneOf(v.Index(i))))
		}
	default:
		out.Set(v)
	}
	return out
}

// same reports whether two objects are equal (an empty list may be nil or not).
func same(a, b api.Object) bool {
	return reflect.DeepEqual(clone(a), clone(b))
}

// show returns the elements of a list up to its capacity.
func show(l reflect.Value) string {
	return fmt.Sprintf("%+v", l.Slice(0, l.Cap()).Interface())
}
