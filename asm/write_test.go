package asm

import (
	"reflect"
	"strings"
	"testing"

	"linchpin/api"
	"linchpin/object"
)

// checkWrite compares Write with the model, and reads what it returns.
func checkWrite(t *testing.T, o api.Object) string {
	t.Helper()
	want := modelWrite(o)
	got := Write(o)
	if got != want {
		t.Fatalf("Write is %q; want %q: %+v", got, want, o)
	}
	if got == "" {
		return got
	}
	p, e, line := Parse(got)
	if e != api.OK || line != 0 || !same(o, p) || object.Bytes(o) != object.Bytes(p) {
		t.Fatalf("Parse(%q) is %+v, %d, %d; want %+v", got, p, e, line, o)
	}
	return got
}

// P11.2: the lines of an object with all sorts of parts.
func TestWriteWhole(t *testing.T) {
	want := `object whole
section text code 16 keep
set r1, 24
rel call -8 g
call 0
jump -16
bytes 0000000000000000
nop
return
section data data 8
bytes feffffffffffffff
rel word 4 x V2
bytes 00000000000000006162636465666768
section zero zero 4
space 12
section t tls 1
bytes 01ff
section tz tlszero 8 keep
space 8
section more code 8
nop
def global protected code text 0 16 f V1
def weak hidden data zero 8 4 y
main weak default code text 8 8 f V2
def local default data data 0 8 d
def global hidden tls tz 4 4 e
common hidden 24 8 c
ref global default code g
ref weak protected data x V2
group g1 text zero
group g2 data
init -5 f V1
last 7 g
line text 0 3 a b.c
line text 8 4 #x
inline text 0 48 9 inl  c
inline text 8 16 10 inl c
var text 0 8 reg 3 v
var text 0 8 stack 16 w
var text 8 16 sym z x V2
var text 8 16 sym zz d
depth text 0 16 8
convert data 000102030405060708090a0b0c0d0e0f000102030405060708090a0b0c0d0e0f
convert data 000102030405060708090a0b0c0d0e0fff0102030405060708090a0b0c0d0e0f
piece 0 8 0
piece 16 4 8
by f V1
`
	if got := checkWrite(t, wholeObject()); got != want {
		t.Errorf("%q", got)
	}
}

// P11.2: objects that are not right.
func TestWriteNotRight(t *testing.T) {
	for _, o := range []api.Object{
		{},
		{Name: "a b"},
		{Name: "a", Secs: []api.Section{{Name: "s", Kind: -1, Align: 8}}},
		{Name: "a", Secs: []api.Section{{Name: "s", Kind: api.SkKinds, Align: 8}}},
		{Name: "a", Secs: []api.Section{{Name: "s", Kind: api.SkCode, Align: 8, Size: 8}}},
		{Name: "a", Syms: []api.Symbol{{Name: "s", Bind: 7, Vis: -1, Kind: 99, Sec: 5}}},
		{Name: "a", Rels: []api.Rel{{Sec: 1, Sym: -1}}},
		{Name: "a", Groups: []api.Group{{Name: "g", Secs: []int{0}}}},
		{Name: "a", Inits: []api.Init{{Sym: 0}}},
		{Name: "a", Lines: []api.Line{{}}},
		{Name: "a", Vars: []api.Var{{Where: api.LoSym, N: -5}}},
		{Name: "a", Converts: []api.Convert{{Code: 3}}},
	} {
		if got := checkWrite(t, o); got != "" {
			t.Errorf("%+v: %q", o, got)
		}
	}
}

// P11.2: names of all sorts, also those that look like words of the lines.
func TestWriteNames(t *testing.T) {
	for _, name := range []string{"a", "#", "#a", "@", "@x", "x@y", "-1", "0", "object", "keep", "sym", "reg", "code", ",", "~!", strings.Repeat("n", 64), "\"", "\\"} {
		o := wholeObject()
		o.Name = name
		for i := range o.Secs {
			o.Secs[i].Name = strings.Repeat(name, 1)[:min(len(name), 62)] + string(rune('a'+i))
		}
		o.Secs[3].Name = name
		for i := range o.Syms {
			o.Syms[i].Name = name
			if i != 3 && i != 5 {
				o.Syms[i].Version = name[:min(len(name), 62)] + string(rune('a'+i))
			}
		}
		o.Syms[5].Name = "common"
		o.Vars = []api.Var{o.Vars[0], o.Vars[2]} // in order, whatever the names are
		o.Groups[0].Name, o.Inlines[0].Name, o.Vars[0].Name, o.Vars[1].Name = name, name, name, name
		if checkWrite(t, o) == "" {
			t.Errorf("%q: not right", name)
		}
	}
	for _, file := range []string{" ", "  ", " a", "a ", " a b ", "#", "@", strings.Repeat(" ", 64), "0"} {
		o := wholeObject()
		o.Lines[0].File, o.Inlines[1].File = file, file
		if got := checkWrite(t, o); !strings.Contains(got, "line text 0 3 "+file+"\n") || !strings.Contains(got, "inline text 8 16 10 inl "+file+"\n") {
			t.Errorf("%q: %q", file, got)
		}
	}
}

// P11.2: the bytes of sections of data of all sizes, with a relocation at every place.
func TestWriteBytes(t *testing.T) {
	content := ""
	for i := range 100 {
		content += string([]byte{byte(200 + i)})
	}
	for size := range 70 {
		for _, kind := range []int{api.SkData, api.SkTls} {
			checkWrite(t, api.Object{Name: "a", Secs: []api.Section{{Name: "s", Kind: kind, Align: 1, Size: size, Bytes: content[:size]}}})
		}
		for _, x := range []struct{ kind, width int }{{api.RkDelta, 2}, {api.RkDiff4, 4}, {api.RkWord, 8}} {
			for at := 0; at+x.width <= size; at += x.width {
				for also := at; also+x.width <= size; also += 3 * x.width {
					o := api.Object{Name: "a", Secs: []api.Section{{Name: "s", Kind: api.SkData, Align: 8, Size: size, Bytes: content[:size]}}, Syms: []api.Symbol{{Name: "f", Bind: api.BdGlobal, Sec: -1}}}
					o.Rels = []api.Rel{{At: at, Kind: x.kind}}
					if also > at {
						o.Rels = append(o.Rels, api.Rel{At: also, Kind: x.kind, Add: -7})
					}
					if checkWrite(t, o) == "" {
						t.Fatalf("not right: %+v", o)
					}
				}
			}
		}
	}
	o := api.Object{
		Name: "o",
		Secs: []api.Section{
			{Name: "empty", Kind: api.SkCode, Align: 8}, {Name: "none", Kind: api.SkData, Align: 1}, {Name: "z", Kind: api.SkZero, Align: 2}, {Name: "tz", Kind: api.SkTlsZero, Align: 4},
			{Name: "d", Kind: api.SkData, Align: 8, Size: 34, Bytes: content[:34]}, {Name: "e", Kind: api.SkData, Align: 8, Size: 8, Bytes: content[:8]},
		},
		Syms: []api.Symbol{{Name: "s", Bind: api.BdWeak, Kind: api.SyData, Sec: -1}},
		Rels: []api.Rel{{Sec: 4, At: 2, Kind: api.RkDelta}, {Sec: 4, At: 4, Kind: api.RkDelta}, {Sec: 4, At: 24, Kind: api.RkDiff}, {Sec: 5, At: 0, Kind: api.RkOffset, Add: 1}},
	}
	want := `object o
section empty code 8
section none data 1
section z zero 2
section tz tlszero 4
section d data 8
bytes c8c9
rel delta 0 s
bytes cacb
rel delta 0 s
bytes cccdcecfd0d1d2d3d4d5d6d7d8d9dadb
bytes dcdddedf
rel diff 0 s
bytes e0e1e2e3e4e5e6e7e8e9
section e data 8
rel offset 1 s
bytes c8c9cacbcccdcecf
ref weak default data s
`
	if got := checkWrite(t, o); got != want {
		t.Errorf("%q", got)
	}
}

// P11.2: code with bytes that are no instructions, and relocations that follow each other.
func TestWriteCode(t *testing.T) {
	nop, call, bad := "\x01\x00\x00\x00\x00\x00\x00\x00", "\x16\x00\x00\x00\xf8\xff\xff\xff", "\x16\x00\x00\x00\x01\x00\x00\x00"
	o := api.Object{
		Name: "c",
		Secs: []api.Section{{Name: "a", Kind: api.SkCode, Align: 8, Size: 48, Bytes: bad + nop + call + call + bad + bad}, {Name: "b", Kind: api.SkCode, Align: 8, Size: 8, Bytes: call}},
		Syms: []api.Symbol{{Name: "f", Version: "v", Bind: api.BdWeak, Sec: -1}, {Name: "g", Bind: api.BdGlobal, Sec: -1}},
		Rels: []api.Rel{{At: 16, Kind: api.RkCall, Add: 2147483647}, {At: 24, Kind: api.RkCall, Sym: 1, Add: -2147483648}, {Sec: 1, Kind: api.RkCall, Sym: 1}},
	}
	want := `object c
section a code 8
bytes 1600000001000000
nop
rel call 2147483647 f v
call -8
rel call -2147483648 g
call -8
bytes 1600000001000000
bytes 1600000001000000
section b code 8
rel call 0 g
call -8
ref weak default code f v
ref global default code g
`
	if got := checkWrite(t, o); got != want {
		t.Errorf("%q", got)
	}
}

// lists returns all lists in a value.
func lists(v reflect.Value) []reflect.Value {
	var l []reflect.Value
	switch v.Kind() {
	case reflect.Struct:
		for i := range v.NumField() {
			l = append(l, lists(v.Field(i))...)
		}
	case reflect.Slice:
		l = append(l, v)
		for i := range v.Len() {
			l = append(l, lists(v.Index(i))...)
		}
	}
	return l
}

// scribble overwrites a list up to its capacity.
func scribble(l reflect.Value) {
	l = l.Slice(0, l.Cap())
	for i := range l.Len() {
		x := l.Index(i)
		if x.Kind() == reflect.Int {
			x.SetInt(77)
			continue
		}
		x.SetZero()
		x.Field(0).SetZero()
		if x.Field(0).Kind() == reflect.Int {
			x.Field(0).SetInt(78)
		}
	}
}

// P11.3: Write leaves the object and what is beyond its lists as they are, and does not read what is beyond.
func TestWriteMemory(t *testing.T) {
	o := wholeObject()
	want := Write(o)
	var before []string
	for _, l := range lists(reflect.ValueOf(&o).Elem()) {
		more := reflect.MakeSlice(l.Type(), l.Len()+3, l.Len()+3)
		scribble(more)
		reflect.Copy(more, l)
		l.Set(more.Slice(0, l.Len()))
	}
	all := lists(reflect.ValueOf(&o).Elem())
	for _, l := range all {
		before = append(before, show(l))
	}
	if got := Write(o); got != want {
		t.Errorf("%q", got)
	}
	for i, l := range all {
		if show(l) != before[i] {
			t.Errorf("a list is %s; it was %s", show(l), before[i])
		}
	}
	if !same(o, wholeObject()) {
		t.Errorf("%+v", o)
	}
}

// P11.3: what Parse returns is new memory, and no two lists of it share any.
func TestParseMemory(t *testing.T) {
	o, _, _ := Parse(whole)
	for i := range lists(reflect.ValueOf(&o).Elem()) {
		p, _, _ := Parse(whole)
		all := lists(reflect.ValueOf(&p).Elem())
		var before []string
		var sizes []int // with the lists in the elements
		for _, l := range all {
			before = append(before, show(l))
			sizes = append(sizes, len(lists(l)))
		}
		scribble(all[i])
		for k, l := range all {
			within := i < k && k < i+sizes[i] || k < i && i < k+sizes[k]
			if k != i && !within && show(l) != before[k] {
				t.Errorf("lists %d and %d share memory", i, k)
			}
		}
		if !same(o, wholeObject()) {
			t.Fatalf("two results share memory: %+v", o)
		}
	}
	if p, e, _ := Parse(whole); e != api.OK || !same(p, wholeObject()) {
		t.Errorf("%+v", p)
	}
}
