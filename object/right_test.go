package object

import (
	"math"
	"strconv"
	"strings"
	"testing"

	"linchpin/api"
)

// change is a change of a right object, and whether it is right afterwards.
type change struct {
	name   string
	change func(o *api.Object)
	right  bool
}

// checkChanges applies each change to an object of its own.
func checkChanges(t *testing.T, from func() api.Object, l []change) {
	t.Helper()
	for i, x := range l {
		o := from()
		x.change(&o)
		if Right(o) != x.right {
			t.Errorf("%d, %s: Right is %v", i, x.name, !x.right)
		}
		if (Bytes(o) != "") != x.right {
			t.Errorf("%d, %s: Bytes is %q", i, x.name, Bytes(o))
		}
		if modelRight(o) != x.right {
			t.Errorf("%d, %s: the model says %v", i, x.name, !x.right)
		}
	}
}

// P10.1: the chapter's examples.
func TestRightExamples(t *testing.T) {
	example := func(at, align int) api.Object {
		return api.Object{
			Name: "a",
			Secs: []api.Section{{Name: "x", Kind: api.SkData, Align: align, Size: 8, Bytes: "12345678"}},
			Syms: []api.Symbol{{Name: "p", Bind: api.BdGlobal, Kind: api.SyData, Sec: -1}},
			Rels: []api.Rel{{Sec: 0, At: at, Kind: api.RkWord, Sym: 0}},
		}
	}
	for i, x := range []struct {
		o    api.Object
		want bool
	}{
		{api.Object{Name: "a"}, true},
		{api.Object{}, false},
		{example(0, 8), true},
		{example(4, 8), false},
		{example(0, 4), false},
		{base(), true},
		{small(), true},
	} {
		if Right(x.o) != x.want {
			t.Error(i)
		}
	}
}

// P10.1: every byte and length of names and file names, wherever they stand.
func TestRightNames(t *testing.T) {
	places := map[string]func(o *api.Object, s string){
		"object":  func(o *api.Object, s string) { o.Name = s },
		"section": func(o *api.Object, s string) { o.Secs[1].Name = s },
		"symbol":  func(o *api.Object, s string) { o.Syms[symZero].Name = s },
		"version": func(o *api.Object, s string) { o.Syms[symZero].Version = s },
		"group":   func(o *api.Object, s string) { o.Groups[1].Name = s },
		"inline":  func(o *api.Object, s string) { o.Inlines[1].Name = s },
		"var":     func(o *api.Object, s string) { o.Vars[3].Name = s },
	}
	files := map[string]func(o *api.Object, s string){
		"line of a file":   func(o *api.Object, s string) { o.Lines[1].File = s },
		"inline of a file": func(o *api.Object, s string) { o.Inlines[1].File = s },
	}
	var texts []string
	for b := range 256 {
		c := string([]byte{byte(b)})
		texts = append(texts, c, "x"+c, c+"x", "x"+c+"x", strings.Repeat("x", 63)+c)
	}
	for n := range 130 {
		texts = append(texts, strings.Repeat("x", n), strings.Repeat("~", n))
	}
	for _, s := range texts {
		for name, put := range places {
			o := base()
			put(&o, s)
			// A version may be empty, a symbol with the name zero and no version is new.
			want := modelName(s) || name == "version" && s == ""
			if Right(o) != want {
				t.Errorf("%s %q: Right is %v", name, s, !want)
			}
		}
		for name, put := range files {
			o := base()
			put(&o, s)
			if Right(o) != modelFile(s) {
				t.Errorf("%s %q: Right is %v", name, s, !modelFile(s))
			}
		}
	}
}

// P10.1: sections.
func TestRightSecs(t *testing.T) {
	// with returns a change to an object with just one section.
	with := func(s api.Section) func(*api.Object) {
		return func(o *api.Object) { *o = api.Object{Name: "o", Secs: []api.Section{s}} }
	}
	nop := instruction(api.OpNop, 0, 0, 0)
	full := strings.Repeat("x", api.MaxSize)
	checkChanges(t, base, []change{
		{"one section", with(api.Section{Name: "x", Kind: api.SkData, Align: 1}), true},
		{"without a name", with(api.Section{Kind: api.SkData, Align: 1}), false},
		{"Kind -1", with(api.Section{Name: "x", Kind: -1, Align: 8}), false},
		{"Kind 5", with(api.Section{Name: "x", Kind: api.SkKinds, Align: 8}), false},
		{"Kind 5 with bytes", with(api.Section{Name: "x", Kind: api.SkKinds, Align: 8, Size: 1, Bytes: "x"}), false},
		{"no Align", with(api.Section{Name: "x", Kind: api.SkData}), false},
		{"Align 3", with(api.Section{Name: "x", Kind: api.SkData, Align: 3}), false},
		{"Align -8", with(api.Section{Name: "x", Kind: api.SkData, Align: -8}), false},
		{"Align 256", with(api.Section{Name: "x", Kind: api.SkData, Align: 256}), true},
		{"Align 512", with(api.Section{Name: "x", Kind: api.SkData, Align: 512}), false},
		{"data of MaxSize", with(api.Section{Name: "x", Kind: api.SkData, Align: 1, Size: api.MaxSize, Bytes: full}), true},
		{"more data", with(api.Section{Name: "x", Kind: api.SkData, Align: 1, Size: api.MaxSize + 1, Bytes: full + "x"}), false},
		{"code of MaxSize", with(api.Section{Name: "x", Kind: api.SkCode, Align: 8, Size: api.MaxSize, Bytes: full}), true},
		{"more code", with(api.Section{Name: "x", Kind: api.SkCode, Align: 8, Size: api.MaxSize + 8, Bytes: full + nop}), false},
		{"zeros of MaxSize", with(api.Section{Name: "x", Kind: api.SkZero, Align: 1, Size: api.MaxSize}), true},
		{"more zeros", with(api.Section{Name: "x", Kind: api.SkZero, Align: 1, Size: api.MaxSize + 1}), false},
		{"less than no zeros", with(api.Section{Name: "x", Kind: api.SkZero, Align: 1, Size: -1}), false},
		{"Size MinInt", with(api.Section{Name: "x", Kind: api.SkZero, Align: 1, Size: math.MinInt}), false},
		{"thread-local zeros of MaxSize", with(api.Section{Name: "x", Kind: api.SkTlsZero, Align: 1, Size: api.MaxSize}), true},
		{"more thread-local zeros", with(api.Section{Name: "x", Kind: api.SkTlsZero, Align: 1, Size: api.MaxSize + 1}), false},
		{"data without its bytes", with(api.Section{Name: "x", Kind: api.SkData, Align: 1, Size: 3, Bytes: "xx"}), false},
		{"data with more bytes", with(api.Section{Name: "x", Kind: api.SkData, Align: 1, Size: 3, Bytes: "xxxx"}), false},
		{"data with its bytes", with(api.Section{Name: "x", Kind: api.SkData, Align: 1, Size: 3, Bytes: "xxx"}), true},
		{"thread-local data without its bytes", with(api.Section{Name: "x", Kind: api.SkTls, Align: 1, Size: 3, Bytes: ""}), false},
		{"thread-local data with its bytes", with(api.Section{Name: "x", Kind: api.SkTls, Align: 2, Size: 3, Bytes: "xxx", Keep: true}), true},
		{"zeros with bytes", with(api.Section{Name: "x", Kind: api.SkZero, Align: 1, Size: 3, Bytes: "\x00\x00\x00"}), false},
		{"thread-local zeros with bytes", with(api.Section{Name: "x", Kind: api.SkTlsZero, Align: 1, Size: 3, Bytes: "\x00\x00\x00"}), false},
		{"no code", with(api.Section{Name: "x", Kind: api.SkCode, Align: 8}), true},
		{"code with the Align 4", with(api.Section{Name: "x", Kind: api.SkCode, Align: 4, Size: 8, Bytes: nop}), false},
		{"code with the Align 16", with(api.Section{Name: "x", Kind: api.SkCode, Align: 16, Size: 8, Bytes: nop}), true},
		{"half an instruction", with(api.Section{Name: "x", Kind: api.SkCode, Align: 8, Size: 4, Bytes: nop[:4]}), false},
		{"12 bytes of code", with(api.Section{Name: "x", Kind: api.SkCode, Align: 8, Size: 12, Bytes: nop + nop[:4]}), false},
		{"code that is no instructions", with(api.Section{Name: "x", Kind: api.SkCode, Align: 8, Size: 8, Bytes: "\xff\xff\xff\xff\xff\xff\xff\xff"}), true},
		{"code without its bytes", with(api.Section{Name: "x", Kind: api.SkCode, Align: 8, Size: 16, Bytes: nop}), false},
		{"two with the same name", func(o *api.Object) { o.Secs[4].Name = "data" }, false},
		{"two with names that differ in case", func(o *api.Object) { o.Secs[4].Name = "Data" }, true},
		{"the first and the last one with the same name", func(o *api.Object) { o.Secs[6].Name = "text" }, false},
		{"a section with the name of the object", func(o *api.Object) { o.Secs[6].Name = o.Name }, true},
	})
}

// sections returns an object with n sections.
func sections(n int) api.Object {
	o := api.Object{Name: "o"}
	for i := range n {
		o.Secs = append(o.Secs, api.Section{Name: "s" + strconv.Itoa(i), Kind: api.SkZero, Align: 1, Size: 1})
	}
	return o
}

// symbols returns an object with n symbols.
func symbols(n int) api.Object {
	o := api.Object{Name: "o"}
	for i := range n {
		o.Syms = append(o.Syms, api.Symbol{Name: "s" + strconv.Itoa(i), Bind: api.BdGlobal, Sec: -1})
	}
	return o
}

// P10.1: MaxSecs sections and MaxSyms symbols, and one more.
func TestRightLimits(t *testing.T) {
	for _, x := range []struct {
		o    api.Object
		want bool
	}{
		{sections(api.MaxSecs - 1), true},
		{sections(api.MaxSecs), true},
		{sections(api.MaxSecs + 1), false},
		{sections(2 * api.MaxSecs), false},
		{symbols(api.MaxSyms - 1), true},
		{symbols(api.MaxSyms), true},
		{symbols(api.MaxSyms + 1), false},
		{symbols(2 * api.MaxSyms), false},
	} {
		if Right(x.o) != x.want {
			t.Errorf("%d sections, %d symbols: Right is %v", len(x.o.Secs), len(x.o.Syms), !x.want)
		}
		if x.want {
			o, ok := Read(Bytes(x.o))
			if !ok || !same(o, x.o) {
				t.Errorf("%d sections, %d symbols: they are read otherwise", len(x.o.Secs), len(x.o.Syms))
			}
		}
	}
	o := symbols(api.MaxSyms)
	o.Syms[api.MaxSyms-1].Name = "s0"
	if Right(o) {
		t.Error("the first and the last symbol have the same name")
	}
	o.Syms[api.MaxSyms-1].Version = "v"
	if !Right(o) {
		t.Error("the first and the last symbol have different versions")
	}
}

// P10.1: definitions.
func TestRightDefinitions(t *testing.T) {
	// with returns a change of the symbol main.
	with := func(s api.Symbol) func(*api.Object) { return func(o *api.Object) { o.Syms[symEnd] = s } }
	def := api.BdGlobal
	checkChanges(t, base, []change{
		{"code in text", with(api.Symbol{Name: "n", Bind: def, Kind: api.SyCode, Sec: secText, At: 8, Size: 88}), true},
		{"one byte more", with(api.Symbol{Name: "n", Bind: def, Kind: api.SyCode, Sec: secText, At: 8, Size: 89}), false},
		{"at the end", with(api.Symbol{Name: "n", Bind: def, Kind: api.SyCode, Sec: secText, At: 96}), true},
		{"behind the end", with(api.Symbol{Name: "n", Bind: def, Kind: api.SyCode, Sec: secText, At: 104}), false},
		{"behind the end, less than nothing", with(api.Symbol{Name: "n", Bind: def, Kind: api.SyCode, Sec: secText, At: 104, Size: -8}), false},
		{"less than nothing", with(api.Symbol{Name: "n", Bind: def, Kind: api.SyCode, Sec: secText, At: 8, Size: -8}), false},
		{"before the section", with(api.Symbol{Name: "n", Bind: def, Kind: api.SyCode, Sec: secText, At: -8, Size: 8}), false},
		{"a sum beyond an int", with(api.Symbol{Name: "n", Bind: def, Kind: api.SyCode, Sec: secText, At: 8, Size: math.MaxInt}), false},
		{"a sum beyond an int, At", with(api.Symbol{Name: "n", Bind: def, Kind: api.SyCode, Sec: secText, At: math.MaxInt - 7, Size: 8}), false},
		{"a sum that wraps around to 0", with(api.Symbol{Name: "n", Bind: def, Kind: api.SyData, Sec: secData, At: math.MinInt, Size: math.MinInt}), false},
		{"At 4", with(api.Symbol{Name: "n", Bind: def, Kind: api.SyCode, Sec: secText, At: 4, Size: 8}), false},
		{"data at 3", with(api.Symbol{Name: "n", Bind: def, Kind: api.SyData, Sec: secData, At: 3, Size: 29}), true},
		{"data at 3, too long", with(api.Symbol{Name: "n", Bind: def, Kind: api.SyData, Sec: secData, At: 3, Size: 30}), false},
		{"code in data", with(api.Symbol{Name: "n", Bind: def, Kind: api.SyCode, Sec: secData}), false},
		{"code in zeros", with(api.Symbol{Name: "n", Bind: def, Kind: api.SyCode, Sec: secZero}), false},
		{"code in thread-local data", with(api.Symbol{Name: "n", Bind: def, Kind: api.SyCode, Sec: secTls}), false},
		{"code in thread-local zeros", with(api.Symbol{Name: "n", Bind: def, Kind: api.SyCode, Sec: secTlsZero}), false},
		{"data in code", with(api.Symbol{Name: "n", Bind: def, Kind: api.SyData, Sec: secText}), false},
		{"data in zeros", with(api.Symbol{Name: "n", Bind: def, Kind: api.SyData, Sec: secZero, At: 24}), true},
		{"data in thread-local data", with(api.Symbol{Name: "n", Bind: def, Kind: api.SyData, Sec: secTls}), false},
		{"data in thread-local zeros", with(api.Symbol{Name: "n", Bind: def, Kind: api.SyData, Sec: secTlsZero}), false},
		{"thread-local in code", with(api.Symbol{Name: "n", Bind: def, Kind: api.SyTls, Sec: secText}), false},
		{"thread-local in data", with(api.Symbol{Name: "n", Bind: def, Kind: api.SyTls, Sec: secData}), false},
		{"thread-local in zeros", with(api.Symbol{Name: "n", Bind: def, Kind: api.SyTls, Sec: secZero}), false},
		{"thread-local in thread-local data", with(api.Symbol{Name: "n", Bind: def, Kind: api.SyTls, Sec: secTls, At: 1, Size: 7}), true},
		{"thread-local in thread-local zeros", with(api.Symbol{Name: "n", Bind: def, Kind: api.SyTls, Sec: secTlsZero, At: 1, Size: 15}), true},
		{"Sec behind the last one", with(api.Symbol{Name: "n", Bind: def, Kind: api.SyData, Sec: baseSecs}), false},
		{"Sec MaxInt", with(api.Symbol{Name: "n", Bind: def, Kind: api.SyData, Sec: math.MaxInt}), false},
		{"Sec -2", with(api.Symbol{Name: "n", Bind: def, Kind: api.SyData, Sec: -2}), false},
		{"common, Sec -2", with(api.Symbol{Name: "n", Bind: api.BdCommon, Kind: api.SyData, Sec: -2, Size: 8, Align: 8}), false},
		{"Align 1", with(api.Symbol{Name: "n", Bind: def, Kind: api.SyData, Sec: secData, Align: 1}), false},
		{"Align -1", with(api.Symbol{Name: "n", Bind: def, Kind: api.SyData, Sec: secData, Align: -1}), false},
		{"common with a section", with(api.Symbol{Name: "n", Bind: api.BdCommon, Kind: api.SyData, Sec: secData, Size: 8}), false},
		{"common with a section and an Align", with(api.Symbol{Name: "n", Bind: api.BdCommon, Kind: api.SyData, Sec: secZero, Size: 8, Align: 8}), false},
		{"local", with(api.Symbol{Name: "n", Bind: api.BdLocal, Kind: api.SyData, Sec: secData}), true},
		{"local, protected", with(api.Symbol{Name: "n", Bind: api.BdLocal, Vis: api.ViProtected, Kind: api.SyData, Sec: secData}), false},
		{"local, hidden", with(api.Symbol{Name: "n", Bind: api.BdLocal, Vis: api.ViHidden, Kind: api.SyData, Sec: secData}), false},
		{"local with a version", with(api.Symbol{Name: "n", Version: "v", Bind: api.BdLocal, Kind: api.SyData, Sec: secData}), false},
		{"weak, hidden", with(api.Symbol{Name: "n", Version: "v", Main: true, Bind: api.BdWeak, Vis: api.ViHidden, Kind: api.SyData, Sec: secData}), true},
		{"main without a version", with(api.Symbol{Name: "n", Main: true, Bind: def, Kind: api.SyData, Sec: secData}), false},
		{"main with a version", with(api.Symbol{Name: "n", Version: "v", Main: true, Bind: def, Kind: api.SyData, Sec: secData}), true},
		{"local and main", with(api.Symbol{Name: "n", Main: true, Bind: api.BdLocal, Kind: api.SyData, Sec: secData}), false},
		{"Bind -1", with(api.Symbol{Name: "n", Bind: -1, Kind: api.SyData, Sec: secData}), false},
		{"Bind 4", with(api.Symbol{Name: "n", Bind: api.BdKinds, Kind: api.SyData, Sec: secData}), false},
		{"Vis -1", with(api.Symbol{Name: "n", Bind: def, Vis: -1, Kind: api.SyData, Sec: secData}), false},
		{"Vis 3", with(api.Symbol{Name: "n", Bind: def, Vis: api.ViKinds, Kind: api.SyData, Sec: secData}), false},
		{"Kind -1", with(api.Symbol{Name: "n", Bind: def, Kind: -1, Sec: secData}), false},
		{"Kind 3", with(api.Symbol{Name: "n", Bind: def, Kind: api.SyKinds, Sec: secTls}), false},
		{"the name of another one", with(api.Symbol{Name: "local", Bind: def, Kind: api.SyData, Sec: secData}), false},
		{"the name of another one with a version", with(api.Symbol{Name: "zero", Bind: def, Kind: api.SyData, Sec: secData}), true},
		{"the name and the version of another one", with(api.Symbol{Name: "zero", Version: "v2", Bind: def, Kind: api.SyData, Sec: secData}), false},
		{"the name of another one, another version", with(api.Symbol{Name: "zero", Version: "v", Bind: def, Kind: api.SyData, Sec: secData}), true},
		{"the name and the version of a reference", with(api.Symbol{Name: "ref", Version: "v1", Bind: def, Kind: api.SyData, Sec: secData}), false},
	})
}

// P10.1: common symbols and references.
func TestRightUndefined(t *testing.T) {
	with := func(s api.Symbol) func(*api.Object) {
		return func(o *api.Object) { s.Sec = -1; o.Syms[symEnd] = s }
	}
	checkChanges(t, base, []change{
		{"common", with(api.Symbol{Name: "n", Bind: api.BdCommon, Kind: api.SyData, Size: 1, Align: 1}), true},
		{"common, protected", with(api.Symbol{Name: "n", Bind: api.BdCommon, Vis: api.ViProtected, Kind: api.SyData, Size: api.MaxSize, Align: 256}), true},
		{"common, Size 0", with(api.Symbol{Name: "n", Bind: api.BdCommon, Kind: api.SyData, Align: 1}), false},
		{"common, Size -1", with(api.Symbol{Name: "n", Bind: api.BdCommon, Kind: api.SyData, Size: -1, Align: 1}), false},
		{"common, Size MaxSize + 1", with(api.Symbol{Name: "n", Bind: api.BdCommon, Kind: api.SyData, Size: api.MaxSize + 1, Align: 1}), false},
		{"common, Align 0", with(api.Symbol{Name: "n", Bind: api.BdCommon, Kind: api.SyData, Size: 8}), false},
		{"common, Align 24", with(api.Symbol{Name: "n", Bind: api.BdCommon, Kind: api.SyData, Size: 8, Align: 24}), false},
		{"common, Align 512", with(api.Symbol{Name: "n", Bind: api.BdCommon, Kind: api.SyData, Size: 8, Align: 512}), false},
		{"common, At 8", with(api.Symbol{Name: "n", Bind: api.BdCommon, Kind: api.SyData, At: 8, Size: 8, Align: 8}), false},
		{"common, At -8", with(api.Symbol{Name: "n", Bind: api.BdCommon, Kind: api.SyData, At: -8, Size: 8, Align: 8}), false},
		{"common, code", with(api.Symbol{Name: "n", Bind: api.BdCommon, Kind: api.SyCode, Size: 8, Align: 8}), false},
		{"common, thread-local", with(api.Symbol{Name: "n", Bind: api.BdCommon, Kind: api.SyTls, Size: 8, Align: 8}), false},
		{"common with a version", with(api.Symbol{Name: "n", Version: "v", Bind: api.BdCommon, Kind: api.SyData, Size: 8, Align: 8}), false},
		{"common, main", with(api.Symbol{Name: "n", Main: true, Bind: api.BdCommon, Kind: api.SyData, Size: 8, Align: 8}), false},
		{"common, main with a version", with(api.Symbol{Name: "n", Version: "v", Main: true, Bind: api.BdCommon, Kind: api.SyData, Size: 8, Align: 8}), false},
		{"reference", with(api.Symbol{Name: "n", Bind: api.BdGlobal, Kind: api.SyTls}), true},
		{"weak hidden reference with a version", with(api.Symbol{Name: "n", Version: "v", Bind: api.BdWeak, Vis: api.ViHidden, Kind: api.SyCode}), true},
		{"local reference", with(api.Symbol{Name: "n", Bind: api.BdLocal, Kind: api.SyCode}), false},
		{"common reference", with(api.Symbol{Name: "n", Bind: api.BdCommon, Kind: api.SyData}), false},
		{"main reference", with(api.Symbol{Name: "n", Version: "v", Main: true, Bind: api.BdGlobal, Kind: api.SyCode}), false},
		{"reference, At", with(api.Symbol{Name: "n", Bind: api.BdGlobal, Kind: api.SyCode, At: 8}), false},
		{"reference, Size", with(api.Symbol{Name: "n", Bind: api.BdGlobal, Kind: api.SyData, Size: 8}), false},
		{"reference, Align", with(api.Symbol{Name: "n", Bind: api.BdWeak, Kind: api.SyData, Align: 8}), false},
		{"reference, Bind 4", with(api.Symbol{Name: "n", Bind: api.BdKinds, Kind: api.SyData}), false},
		{"reference, Bind -1", with(api.Symbol{Name: "n", Bind: -1, Kind: api.SyData}), false},
		{"reference, Vis 3", with(api.Symbol{Name: "n", Bind: api.BdWeak, Vis: api.ViKinds, Kind: api.SyData}), false},
		{"reference, Kind 3", with(api.Symbol{Name: "n", Bind: api.BdWeak, Kind: api.SyKinds}), false},
	})
}

// P10.1: relocations.
func TestRightRels(t *testing.T) {
	with := func(l ...api.Rel) func(*api.Object) { return func(o *api.Object) { o.Rels = l } }
	rel := func(sec, at, kind int) api.Rel { return api.Rel{Sec: sec, At: at, Kind: kind} }
	checkChanges(t, base, []change{
		{"none", with(), true},
		{"Kind -1", with(rel(secData, 0, -1)), false},
		{"Kind 13", with(rel(secData, 0, api.RkKinds)), false},
		{"Sec -1", with(rel(-1, 0, api.RkWord)), false},
		{"Sec behind the last one", with(rel(baseSecs, 0, api.RkWord)), false},
		{"Sym -1", with(api.Rel{Sec: secData, Sym: -1}), false},
		{"the last Sym", with(api.Rel{Sec: secData, Sym: baseSyms - 1}), true},
		{"Sym behind the last one", with(api.Rel{Sec: secData, Sym: baseSyms}), false},
		{"the least Add", with(api.Rel{Sec: secData, Add: -1 << 31}), true},
		{"a lesser Add", with(api.Rel{Sec: secData, Add: -1<<31 - 1}), false},
		{"the greatest Add", with(api.Rel{Sec: secData, Add: 1<<31 - 1}), true},
		{"a greater Add", with(api.Rel{Sec: secData, Add: 1 << 31}), false},
		{"RkWord at the end", with(rel(secData, 24, api.RkWord)), true},
		{"RkWord over the end", with(rel(secData, 28, api.RkWord)), false},
		{"RkWord behind the end", with(rel(secData, 32, api.RkWord)), false},
		{"RkWord before the beginning", with(rel(secData, -8, api.RkWord)), false},
		{"RkWord at MaxInt - 7", with(rel(secData, math.MaxInt-7, api.RkWord)), false},
		{"RkWord at MinInt", with(rel(secData, math.MinInt, api.RkWord)), false},
		{"RkWord at 4", with(rel(secData, 4, api.RkWord)), false},
		{"RkDiff at 4", with(rel(secData, 4, api.RkDiff)), false},
		{"RkSize at 4", with(rel(secData, 4, api.RkSize)), false},
		{"RkModule at 4", with(rel(secData, 4, api.RkModule)), false},
		{"RkOffset at 4", with(rel(secData, 4, api.RkOffset)), false},
		{"RkDiff4 at 4", with(rel(secData, 4, api.RkDiff4)), true},
		{"RkDiff4 at the end", with(rel(secData, 28, api.RkDiff4)), true},
		{"RkDiff4 at 2", with(rel(secData, 2, api.RkDiff4)), false},
		{"RkDelta at 2", with(rel(secData, 2, api.RkDelta)), true},
		{"RkDelta at the end", with(rel(secData, 30, api.RkDelta)), true},
		{"RkDelta at 1", with(rel(secData, 1, api.RkDelta)), false},
		{"RkDelta in a section with the Align 2", with(rel(secMore, 0, api.RkDelta)), true},
		{"RkDiff4 in a section with the Align 2", with(rel(secMore, 0, api.RkDiff4)), false},
		{"RkWord in a section with the Align 2", with(rel(secMore, 0, api.RkWord)), false},
		{"RkWord in zeros", with(rel(secZero, 0, api.RkWord)), false},
		{"RkDelta in thread-local data", with(rel(secTls, 0, api.RkDelta)), false},
		{"RkWord in thread-local zeros", with(rel(secTlsZero, 0, api.RkWord)), false},
		{"RkWord in code", with(rel(secText, 0, api.RkWord)), false},
		{"RkDelta in code", with(rel(secText, 0, api.RkDelta)), false},
		{"two words", with(rel(secData, 0, api.RkWord), rel(secData, 8, api.RkWord)), true},
		{"two words, descending", with(rel(secData, 8, api.RkWord), rel(secData, 0, api.RkWord)), false},
		{"two words at the same place", with(rel(secData, 8, api.RkWord), rel(secData, 8, api.RkWord)), false},
		{"4 bytes in a word", with(rel(secData, 0, api.RkWord), rel(secData, 4, api.RkDiff4)), false},
		{"4 bytes behind a word", with(rel(secData, 0, api.RkWord), rel(secData, 8, api.RkDiff4)), true},
		{"2 bytes in 4", with(rel(secData, 0, api.RkDiff4), rel(secData, 2, api.RkDelta)), false},
		{"2 bytes behind 4", with(rel(secData, 0, api.RkDiff4), rel(secData, 4, api.RkDelta)), true},
		{"2 and 2 bytes", with(rel(secData, 0, api.RkDelta), rel(secData, 2, api.RkDelta)), true},
		{"another section, a lesser At", with(rel(secData, 24, api.RkWord), rel(secMore, 0, api.RkDelta)), true},
		{"a section before", with(rel(secMore, 0, api.RkDelta), rel(secData, 24, api.RkWord)), false},
		{"a section again", with(rel(secText, 32, api.RkCall), rel(secData, 24, api.RkWord), rel(secText, 40, api.RkSlot)), false},
		{"instructions", with(rel(secText, 24, api.RkAddr), rel(secText, 32, api.RkCall)), true},
		{"within an instruction", with(rel(secText, 36, api.RkCall)), false},
		{"behind the code", with(rel(secText, 96, api.RkCall)), false},
		{"RkCall in data with the bytes of a call", func(o *api.Object) {
			o.Secs[secData].Bytes = strings.Repeat(instruction(api.OpCall, 0, 0, 0), 4)
			o.Rels = []api.Rel{rel(secData, 0, api.RkCall)}
		}, false},
		{"RkCall at no instruction", func(o *api.Object) {
			o.Secs[secCode].Bytes = strings.Repeat(instruction(api.OpCall, 0, 0, 0)[:4]+"\x04\x00\x00\x00", 3)
			o.Rels = []api.Rel{rel(secCode, 8, api.RkCall)}
		}, false},
		{"RkCall at an instruction with another Imm", func(o *api.Object) {
			o.Secs[secCode].Bytes = strings.Repeat(instruction(api.OpCall, 0, 0, -8), 3)
			o.Rels = []api.Rel{rel(secCode, 8, api.RkCall)}
		}, true},
	})
}

// P10.1: the relocations in instructions, of all kinds with all Ops.
func TestRightRelOps(t *testing.T) {
	want := map[[2]int]bool{
		{api.RkAddr, api.OpAddr}: true, {api.RkAddr, api.OpJump}: true, {api.RkAddr, api.OpZero}: true, {api.RkAddr, api.OpNonzero}: true,
		{api.RkCall, api.OpCall}:     true,
		{api.RkSlot, api.OpCallSlot}: true, {api.RkSlot, api.OpJumpSlot}: true,
		{api.RkLow, api.OpSet}:   true,
		{api.RkHigh, api.OpHigh}: true,
		{api.RkTls, api.OpSet}:   true, {api.RkTls, api.OpAddImm}: true,
	}
	n := 0
	for kind := -2; kind < api.RkKinds+2; kind++ {
		for op := api.OpNop; op < api.OpKinds; op++ {
			nop := instruction(api.OpNop, 0, 0, 0)
			code := nop + instruction(op, 0, 0, 0) + nop
			o := api.Object{
				Name: "o",
				Secs: []api.Section{{Name: "c", Kind: api.SkCode, Align: 8, Size: 24, Bytes: code}},
				Syms: []api.Symbol{{Name: "f", Bind: api.BdGlobal, Sec: -1}},
				Rels: []api.Rel{{At: 8, Kind: kind}},
			}
			if Right(o) != want[[2]int{kind, op}] {
				t.Errorf("Kind %d, Op %d: Right is %v", kind, op, Right(o))
			}
			if Right(o) {
				n++
			}
		}
	}
	if n != len(want) {
		t.Error(n)
	}
}

// P10.1: groups, initializers and finalizers.
func TestRightGroupsAndInits(t *testing.T) {
	with := func(l ...api.Group) func(*api.Object) { return func(o *api.Object) { o.Groups = l } }
	group := func(name string, secs ...int) api.Group { return api.Group{Name: name, Secs: secs} }
	init := func(x api.Init) func(*api.Object) { return func(o *api.Object) { o.Inits = append(o.Inits, x) } }
	checkChanges(t, base, []change{
		{"all sections", with(group("g", 0, 1, 2, 3, 4, 5, 6)), true},
		{"no section", with(group("g")), false},
		{"no section behind another group", with(group("g", 1), group("h")), false},
		{"two groups", with(group("g", 0, 6), group("h", 3)), true},
		{"descending", with(group("g", 6, 0)), false},
		{"descending at the end", with(group("g", 0, 6, 3)), false},
		{"a section twice", with(group("g", 3, 3)), false},
		{"a section in two groups", with(group("g", 0, 3), group("h", 3, 4)), false},
		{"a section in two groups that are not neighbours", with(group("g", 0, 3), group("h", 4), group("i", 3)), false},
		{"Sec -1", with(group("g", -1)), false},
		{"Sec behind the last one", with(group("g", 0, baseSecs)), false},
		{"Sec MaxInt", with(group("g", 0, math.MaxInt)), false},
		{"Sec MinInt", with(group("g", math.MinInt)), false},
		{"two groups with the same name", with(group("g", 0), group("g", 1)), false},
		{"two groups with the same name that are not neighbours", with(group("g", 0), group("h", 1), group("g", 2)), false},
		{"a group with the name of a section", with(group("text", 0), group("base.o", 1)), true},
		{"Order 2^20", init(api.Init{Sym: symMain, Order: 1 << 20}), true},
		{"Order 2^20 + 1", init(api.Init{Sym: symMain, Order: 1<<20 + 1}), false},
		{"Order -2^20", init(api.Init{Sym: symMain, Order: -1 << 20}), true},
		{"Order -2^20 - 1", init(api.Init{Sym: symMain, Order: -1<<20 - 1, Last: true}), false},
		{"Order MinInt", init(api.Init{Sym: symMain, Order: math.MinInt}), false},
		{"the same one again", init(api.Init{Sym: symRef, Order: 1}), true},
		{"a symbol of data", init(api.Init{Sym: symLocal}), false},
		{"a thread-local symbol", init(api.Init{Sym: symTls}), false},
		{"a common symbol", init(api.Init{Sym: symCommon}), false},
		{"a reference", init(api.Init{Sym: symRef}), true},
		{"a reference to data", init(api.Init{Sym: symRefData}), false},
		{"Sym -1", init(api.Init{Sym: -1}), false},
		{"the last Sym", init(api.Init{Sym: baseSyms - 1}), true},
		{"Sym behind the last one", init(api.Init{Sym: baseSyms}), false},
	})
}

// P10.1: lines.
func TestRightLines(t *testing.T) {
	with := func(l ...api.Line) func(*api.Object) { return func(o *api.Object) { o.Lines = l } }
	line := func(sec, at, n int) api.Line { return api.Line{Sec: sec, At: at, File: "f", Line: n} }
	checkChanges(t, base, []change{
		{"the last instruction", with(line(secText, 88, 1)), true},
		{"the end", with(line(secText, 96, 1)), false},
		{"At -8", with(line(secText, -8, 1)), false},
		{"At 4", with(line(secText, 4, 1)), false},
		{"At MaxInt - 7", with(line(secText, math.MaxInt-7, 1)), false},
		{"At MinInt", with(line(secText, math.MinInt, 1)), false},
		{"Line 0", with(line(secText, 0, 0)), false},
		{"Line -1", with(line(secText, 0, -1)), false},
		{"Line 2^20", with(line(secText, 0, 1<<20)), true},
		{"Line 2^20 + 1", with(line(secText, 0, 1<<20+1)), false},
		{"no file", with(api.Line{Sec: secText, Line: 1}), false},
		{"data", with(line(secData, 0, 1)), false},
		{"zeros", with(line(secZero, 0, 1)), false},
		{"Sec -1", with(line(-1, 0, 1)), false},
		{"Sec behind the last one", with(line(baseSecs, 0, 1)), false},
		{"in order", with(line(secText, 8, 9), line(secText, 16, 1), line(secCode, 0, 5)), true},
		{"At descends", with(line(secText, 16, 1), line(secText, 8, 2)), false},
		{"Sec descends", with(line(secCode, 0, 1), line(secText, 8, 2)), false},
		{"equal", with(line(secText, 8, 1), line(secText, 8, 1)), false},
		{"equal but for the line", with(line(secText, 8, 1), line(secText, 8, 2)), false},
		{"an empty section", func(o *api.Object) {
			*o = api.Object{Name: "o", Secs: []api.Section{{Name: "c", Kind: api.SkCode, Align: 8}}, Lines: []api.Line{line(0, 0, 1)}}
		}, false},
	})
}

// P10.1: inlined functions.
func TestRightInlines(t *testing.T) {
	with := func(l ...api.Inline) func(*api.Object) { return func(o *api.Object) { o.Inlines = l } }
	inline := func(sec, from, to int) api.Inline {
		return api.Inline{Sec: sec, From: from, To: to, Name: "f", File: "f c", Line: 1}
	}
	checkChanges(t, base, []change{
		{"one instruction", with(inline(secText, 88, 96)), true},
		{"no instruction", with(inline(secText, 88, 88)), false},
		{"less than no instruction", with(inline(secText, 16, 8)), false},
		{"over the end", with(inline(secText, 88, 104)), false},
		{"From 4", with(inline(secText, 4, 16)), false},
		{"To 12", with(inline(secText, 8, 12)), false},
		{"From -8", with(inline(secText, -8, 8)), false},
		{"From MinInt", with(inline(secText, math.MinInt, 8)), false},
		{"To MaxInt - 7", with(inline(secText, 0, math.MaxInt-7)), false},
		{"data", with(inline(secData, 0, 8)), false},
		{"Sec -1", with(inline(-1, 0, 8)), false},
		{"Sec behind the last one", with(inline(baseSecs, 0, 8)), false},
		{"no name", with(api.Inline{To: 8, File: "f", Line: 1}), false},
		{"a name with a space", with(api.Inline{To: 8, Name: "f c", File: "f", Line: 1}), false},
		{"no file", with(api.Inline{To: 8, Name: "f", Line: 1}), false},
		{"Line 0", with(api.Inline{To: 8, Name: "f", File: "f"}), false},
		{"Line 2^20", with(api.Inline{To: 8, Name: "f", File: "f", Line: 1 << 20}), true},
		{"Line 2^20 + 1", with(api.Inline{To: 8, Name: "f", File: "f", Line: 1<<20 + 1}), false},
		{"disjoint", with(inline(secText, 0, 8), inline(secText, 8, 16), inline(secText, 24, 32)), true},
		{"From descends", with(inline(secText, 8, 16), inline(secText, 0, 8)), false},
		{"To ascends", with(inline(secText, 0, 8), inline(secText, 0, 16)), false},
		{"To descends", with(inline(secText, 0, 16), inline(secText, 0, 8)), true},
		{"equal", with(inline(secText, 0, 16), inline(secText, 0, 16)), true},
		{"Sec descends", with(inline(secCode, 0, 8), inline(secText, 8, 16)), false},
		{"overlapping", with(inline(secText, 0, 16), inline(secText, 8, 24)), false},
		{"overlapping in different sections", with(inline(secText, 8, 24), inline(secCode, 0, 16)), true},
		{"within, at the end", with(inline(secText, 0, 24), inline(secText, 16, 24)), true},
		{"overlapping the outermost one", with(inline(secText, 0, 24), inline(secText, 8, 16), inline(secText, 16, 32)), false},
		{"behind the inner one, within the outer one", with(inline(secText, 0, 24), inline(secText, 8, 16), inline(secText, 16, 24)), true},
		{"behind both", with(inline(secText, 0, 24), inline(secText, 8, 24), inline(secText, 24, 40)), true},
	})
}

// P10.1: variables.
func TestRightVars(t *testing.T) {
	with := func(l ...api.Var) func(*api.Object) { return func(o *api.Object) { o.Vars = l } }
	where := func(where, n int) func(*api.Object) {
		return with(api.Var{Sec: secText, To: 8, Name: "v", Where: where, N: n})
	}
	at := func(sec, from, to int, name string) api.Var {
		return api.Var{Sec: sec, From: from, To: to, Name: name}
	}
	checkChanges(t, base, []change{
		{"Where -1", where(-1, 0), false},
		{"Where 3", where(api.LoKinds, 0), false},
		{"register 0", where(api.LoReg, 0), true},
		{"register 15", where(api.LoReg, 15), true},
		{"register 16", where(api.LoReg, 16), false},
		{"register -1", where(api.LoReg, -1), false},
		{"stack 0", where(api.LoStack, 0), true},
		{"stack 4", where(api.LoStack, 4), false},
		{"stack 1016", where(api.LoStack, 1016), true},
		{"stack 1020", where(api.LoStack, 1020), false},
		{"stack 1024", where(api.LoStack, 1024), false},
		{"stack -8", where(api.LoStack, -8), false},
		{"symbol of data", where(api.LoSym, symLocal), true},
		{"common symbol", where(api.LoSym, symCommon), true},
		{"reference to data", where(api.LoSym, symRefData), true},
		{"symbol of code", where(api.LoSym, symMain), false},
		{"thread-local symbol", where(api.LoSym, symTls), false},
		{"reference to code", where(api.LoSym, symRef), false},
		{"symbol -1", where(api.LoSym, -1), false},
		{"symbol behind the last one", where(api.LoSym, baseSyms), false},
		{"no name", with(at(secText, 0, 8, "")), false},
		{"no instruction", with(at(secText, 8, 8, "v")), false},
		{"over the end", with(at(secText, 8, 104, "v")), false},
		{"From 4", with(at(secText, 4, 8, "v")), false},
		{"To 4", with(at(secText, 0, 4, "v")), false},
		{"data", with(at(secData, 0, 8, "v")), false},
		{"Sec -1", with(at(-1, 0, 8, "v")), false},
		{"Sec behind the last one", with(at(baseSecs, 0, 8, "v")), false},
		{"in order", with(at(secText, 0, 8, "v"), at(secText, 0, 16, "u"), at(secText, 0, 16, "v"), at(secText, 8, 16, "u"), at(secCode, 0, 8, "a")), true},
		{"Sec descends", with(at(secCode, 0, 8, "v"), at(secText, 0, 8, "v")), false},
		{"From descends", with(at(secText, 8, 16, "v"), at(secText, 0, 16, "v")), false},
		{"To descends", with(at(secText, 0, 16, "v"), at(secText, 0, 8, "v")), false},
		{"Name descends", with(at(secText, 0, 8, "v"), at(secText, 0, 8, "u")), false},
		{"Name descends byte by byte", with(at(secText, 0, 8, "a"), at(secText, 0, 8, "B")), false},
		{"equal", with(at(secText, 0, 8, "v"), at(secText, 0, 8, "v")), false},
		{"equal but for the register", with(at(secText, 0, 8, "v"), api.Var{To: 8, Name: "v", N: 1}), false},
		{"overlapping", with(at(secText, 0, 16, "v"), at(secText, 8, 24, "v")), true},
	})
}

// P10.1: depths.
func TestRightDepths(t *testing.T) {
	with := func(l ...api.Depth) func(*api.Object) { return func(o *api.Object) { o.Depths = l } }
	depth := func(sec, from, to, bytes int) api.Depth {
		return api.Depth{Sec: sec, From: from, To: to, Bytes: bytes}
	}
	checkChanges(t, base, []change{
		{"0 bytes", with(depth(secText, 0, 8, 0)), true},
		{"1016 bytes", with(depth(secText, 0, 8, 1016)), true},
		{"1024 bytes", with(depth(secText, 0, 8, 1024)), false},
		{"1018 bytes", with(depth(secText, 0, 8, 1018)), false},
		{"4 bytes", with(depth(secText, 0, 8, 4)), false},
		{"-8 bytes", with(depth(secText, 0, 8, -8)), false},
		{"no instruction", with(depth(secText, 8, 8, 0)), false},
		{"over the end", with(depth(secText, 8, 104, 0)), false},
		{"From 4", with(depth(secText, 4, 8, 0)), false},
		{"To 4", with(depth(secText, 0, 4, 0)), false},
		{"data", with(depth(secData, 0, 8, 0)), false},
		{"Sec -1", with(depth(-1, 0, 8, 0)), false},
		{"Sec behind the last one", with(depth(baseSecs, 0, 8, 0)), false},
		{"in order", with(depth(secText, 0, 8, 0), depth(secText, 8, 16, 0), depth(secText, 24, 32, 8), depth(secCode, 0, 8, 0)), true},
		{"Sec descends", with(depth(secCode, 16, 24, 0), depth(secText, 24, 32, 0)), false},
		{"From descends", with(depth(secText, 8, 16, 0), depth(secText, 0, 8, 0)), false},
		{"overlapping", with(depth(secText, 0, 16, 0), depth(secText, 8, 24, 8)), false},
		{"nested", with(depth(secText, 0, 24, 0), depth(secText, 8, 16, 8)), false},
		{"equal", with(depth(secText, 0, 16, 0), depth(secText, 0, 16, 0)), false},
		{"overlapping in different sections", with(depth(secText, 0, 16, 0), depth(secCode, 8, 24, 8)), true},
	})
}

// P10.1: converters.
func TestRightConverts(t *testing.T) {
	with := func(l ...api.Convert) func(*api.Object) { return func(o *api.Object) { o.Converts = l } }
	from := func(s string) string { return strings.Repeat(s, 32) }
	code := func(n int) func(*api.Object) { return with(api.Convert{Sec: secData, From: from("d"), Code: n}) }
	pieces := func(l ...api.Piece) func(*api.Object) {
		return with(api.Convert{Sec: secData, From: from("d"), Pieces: l, Code: -1})
	}
	sec := func(n int) api.Convert { return api.Convert{Sec: n, From: from("d"), Code: -1} }
	checkChanges(t, base, []change{
		{"data", with(sec(secData)), true},
		{"code", with(sec(secText)), false},
		{"zeros", with(sec(secZero)), false},
		{"thread-local data", with(sec(secTls)), false},
		{"thread-local zeros", with(sec(secTlsZero)), false},
		{"Sec -1", with(sec(-1)), false},
		{"Sec behind the last one", with(sec(baseSecs)), false},
		{"From of 31 bytes", with(api.Convert{Sec: secData, From: from("d")[1:], Code: -1}), false},
		{"From of 33 bytes", with(api.Convert{Sec: secData, From: from("d") + "d", Code: -1}), false},
		{"From of no bytes", with(api.Convert{Sec: secData, Code: -1}), false},
		{"From of any bytes", with(api.Convert{Sec: secData, From: from("\xff"), Code: -1}), true},
		{"Code -1", code(-1), true},
		{"Code -2", code(-2), false},
		{"Code MinInt", code(math.MinInt), false},
		{"Code is code", code(symMain), true},
		{"Code is a reference", code(symRef), true},
		{"Code is data", code(symLocal), false},
		{"Code is thread-local", code(symTls), false},
		{"the last Code", code(baseSyms - 1), true},
		{"Code behind the last one", code(baseSyms), false},
		{"the whole section", pieces(api.Piece{Size: 32}), true},
		{"one byte more", pieces(api.Piece{Size: 33}), false},
		{"over the end", pieces(api.Piece{Size: 8, To: 25}), false},
		{"at the end", pieces(api.Piece{Size: 8, To: 24}), true},
		{"Size 0", pieces(api.Piece{Size: 0}), false},
		{"Size -1", pieces(api.Piece{From: 8, Size: -1, To: 8}), false},
		{"From -1", pieces(api.Piece{From: -1, Size: 8}), false},
		{"To -1", pieces(api.Piece{Size: 8, To: -1}), false},
		{"From at the end", pieces(api.Piece{From: api.MaxSize - 8, Size: 8}), true},
		{"From over the end", pieces(api.Piece{From: api.MaxSize - 7, Size: 8}), false},
		{"From MaxInt", pieces(api.Piece{From: math.MaxInt, Size: 8}), false},
		{"To MaxInt", pieces(api.Piece{Size: 8, To: math.MaxInt}), false},
		{"Size MaxInt", pieces(api.Piece{Size: math.MaxInt}), false},
		{"Size MaxInt, From 1", pieces(api.Piece{From: 1, Size: math.MaxInt, To: 1}), false},
		{"two pieces", pieces(api.Piece{From: 8, Size: 8}, api.Piece{From: 0, Size: 8, To: 8}), true},
		{"two pieces from the same", pieces(api.Piece{Size: 8}, api.Piece{Size: 8, To: 8}), true},
		{"two pieces with a gap", pieces(api.Piece{Size: 8}, api.Piece{Size: 8, To: 9}), true},
		{"two pieces that overlap", pieces(api.Piece{Size: 8}, api.Piece{Size: 8, To: 7}), false},
		{"two pieces at the same place", pieces(api.Piece{Size: 8}, api.Piece{Size: 8}), false},
		{"two pieces, descending", pieces(api.Piece{Size: 8, To: 8}, api.Piece{Size: 8}), false},
		{"three pieces, the last one overlaps", pieces(api.Piece{Size: 8}, api.Piece{Size: 8, To: 8}, api.Piece{Size: 8, To: 15}), false},
		{"two forms", with(api.Convert{Sec: secData, From: from("a"), Code: -1}, api.Convert{Sec: secData, From: from("b"), Code: -1}), true},
		{"two forms, descending", with(api.Convert{Sec: secData, From: from("b"), Code: -1}, api.Convert{Sec: secData, From: from("a"), Code: -1}), false},
		{"two equal forms", with(api.Convert{Sec: secData, From: from("a"), Code: -1}, api.Convert{Sec: secData, From: from("a"), Code: symMain}), false},
		{"two forms, descending byte by byte", with(api.Convert{Sec: secData, From: from("\xff"), Code: -1}, api.Convert{Sec: secData, From: from("\x01"), Code: -1}), false},
		{"two sections", with(api.Convert{Sec: secData, From: from("b"), Code: -1}, api.Convert{Sec: secMore, From: from("a"), Code: -1}), true},
		{"Sec descends", with(api.Convert{Sec: secMore, From: from("a"), Code: -1}, api.Convert{Sec: secData, From: from("b"), Code: -1}), false},
	})
}
