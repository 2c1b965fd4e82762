package object

import (
	"math"
	"reflect"
	"slices"
	"strings"
	"testing"

	"linchpin/api"
	"linchpin/digest"
)

// checkRight compares Right, Bytes and Read of an object with the model.
func checkRight(t *testing.T, o api.Object) bool {
	t.Helper()
	want := modelRight(o)
	if Right(o) != want {
		t.Fatalf("Right is %v: %+v", !want, o)
	}
	s := ""
	if want {
		s = encoded(o)
	}
	if got := Bytes(o); got != s {
		t.Fatalf("Bytes is %q; want %q: %+v", got, s, o)
	}
	if want {
		if p, ok := Read(s); !ok || !same(o, p) {
			t.Fatalf("Read is %+v, %v; want %+v", p, ok, o)
		}
	}
	return want
}

// numbersAround returns numbers at which something ends: sizes, kinds, limits and what wraps around.
func numbersAround() []int {
	l := []int{math.MinInt, math.MinInt + 1, math.MaxInt, math.MaxInt - 1, math.MaxInt - 7, math.MinInt + 8, 1 << 32, 1 << 40}
	for _, n := range []int{0, 8, 16, 24, 32, 96, 256, 512, api.StackSize, api.MaxSize, 1 << 31} {
		l = append(l, n-8, n-1, n, n+1, n+8, -n-1, -n)
	}
	for n := range 16 {
		l = append(l, n)
	}
	slices.Sort(l)
	return slices.Compact(l)
}

// textsAround returns strings that are and are not names, file names and contents of the base.
func textsAround() []string {
	return []string{
		"", " ", "a", "z", "a b", "a\\", "\"", "!", "~", "\x7f", "\x1f", "\x80", "\x00", "v1", "v2", "main", "ref", "zero", "text", "data", "one", "i", "j", "f", "g",
		strings.Repeat("d", 31), strings.Repeat("d", 32), strings.Repeat("d", 33), strings.Repeat("e", 32), strings.Repeat("f", 32),
		strings.Repeat("n", 64), strings.Repeat("n", 65), strings.Repeat("\x00", 8), strings.Repeat("\x00", 24), baseText(), baseText()[:88], baseText()[8:], strings.Repeat("z", 24),
	}
}

// settings returns, for a field of a value, changes that set it to all sorts of contents.
func settings(v reflect.Value) []func() {
	var l []func()
	switch v.Kind() {
	case reflect.Int:
		for _, n := range numbersAround() {
			l = append(l, func() { v.SetInt(int64(n)) })
		}
	case reflect.Bool:
		l = append(l, func() { v.SetBool(true) }, func() { v.SetBool(false) })
	case reflect.String:
		for _, s := range textsAround() {
			l = append(l, func() { v.SetString(s) })
		}
	}
	return l
}

// rows returns all structs and elements of lists of numbers in an object.
func rows(v reflect.Value) []reflect.Value {
	var l []reflect.Value
	switch v.Kind() {
	case reflect.Struct:
		l = append(l, v)
		for i := range v.NumField() {
			l = append(l, rows(v.Field(i))...)
		}
	case reflect.Slice:
		for i := range v.Len() {
			l = append(l, rows(v.Index(i))...)
		}
	case reflect.Int:
		l = append(l, v)
	}
	return l
}

// fieldsOf returns the fields of a struct that are no lists, or the value itself if it is no struct.
func fieldsOf(v reflect.Value) []reflect.Value {
	if v.Kind() != reflect.Struct {
		return []reflect.Value{v}
	}
	var l []reflect.Value
	for i := range v.NumField() {
		if v.Field(i).Kind() != reflect.Slice {
			l = append(l, v.Field(i))
		}
	}
	return l
}

// P10.1, P10.2, P10.5: every field of the base with all sorts of contents.
func TestEveryField(t *testing.T) {
	right, tried := 0, 0
	o := base()
	for _, row := range rows(reflect.ValueOf(&o).Elem()) {
		for _, f := range fieldsOf(row) {
			before := reflect.New(f.Type()).Elem()
			before.Set(f)
			for _, set := range settings(f) {
				set()
				tried++
				if checkRight(t, o) {
					right++
				}
			}
			f.Set(before)
		}
	}
	if !same(o, base()) || right < 300 || right > tried/2 {
		t.Errorf("%d of %d are right", right, tried)
	}
}

// smallRows returns objects with one part of each kind.
func smallRows() []api.Object {
	var l []api.Object
	with := func(change func(o *api.Object)) {
		o := small()
		change(&o)
		l = append(l, o)
	}
	with(func(o *api.Object) { o.Syms[0].Size = 8 })
	with(func(o *api.Object) { o.Rels = []api.Rel{{Sec: 0, At: 8, Kind: api.RkCall}} })
	with(func(o *api.Object) { o.Rels = []api.Rel{{Sec: 2, At: 8, Kind: api.RkWord}} })
	with(func(o *api.Object) { o.Groups = []api.Group{{Name: "g", Secs: []int{0, 1}}} })
	with(func(o *api.Object) { o.Inits = []api.Init{{Sym: 1}} })
	with(func(o *api.Object) { o.Lines = []api.Line{{At: 8, File: "f", Line: 1}} })
	with(func(o *api.Object) { o.Inlines = []api.Inline{{From: 8, To: 16, Name: "n", File: "f", Line: 1}} })
	with(func(o *api.Object) { o.Vars = []api.Var{{To: 16, Name: "v", Where: api.LoSym, N: 2}} })
	with(func(o *api.Object) { o.Depths = []api.Depth{{To: 16, Bytes: 8}} })
	with(func(o *api.Object) {
		o.Converts = []api.Convert{{Sec: 2, From: strings.Repeat("d", 32), Pieces: []api.Piece{{Size: 8, To: 8}}, Code: 0}}
	})
	return l
}

// P10.1, P10.2, P10.5: every two fields of a section, a symbol, a relocation and so on with all sorts of contents.
func TestEveryTwoFields(t *testing.T) {
	right, tried := 0, 0
	for _, o := range smallRows() {
		all := rows(reflect.ValueOf(&o).Elem())
		for _, row := range all[len(all)-12:] {
			fields := fieldsOf(row)
			for i, f := range fields {
				for _, g := range fields[:i] {
					keepF, keepG := reflect.New(f.Type()).Elem(), reflect.New(g.Type()).Elem()
					keepF.Set(f)
					keepG.Set(g)
					for _, setF := range settings(f) {
						for _, setG := range settings(g) {
							setF()
							setG()
							want := modelRight(o)
							if Right(o) != want {
								t.Fatalf("Right is %v: %+v", !want, o)
							}
							tried++
							if want {
								right++
							}
						}
					}
					f.Set(keepF)
					g.Set(keepG)
				}
			}
		}
	}
	if right < 1000 || right > tried/2 {
		t.Errorf("%d of %d are right", right, tried)
	}
}

// lists calls f with all lists of up to n of certain elements.
func lists[T any](choices []T, n int, f func([]T)) {
	var extend func(l []T)
	extend = func(l []T) {
		f(l)
		if len(l) == n {
			return
		}
		for _, x := range choices {
			extend(append(slices.Clone(l), x))
		}
	}
	extend(nil)
}

// everyList compares Right with the model for all short lists of certain elements.
func everyList[T any](t *testing.T, choices []T, n int, put func(o *api.Object, l []T)) {
	t.Helper()
	o := small()
	right, tried := 0, 0
	lists(choices, n, func(l []T) {
		put(&o, l)
		want := modelRight(o)
		if Right(o) != want {
			t.Fatalf("Right is %v: %+v", !want, l)
		}
		tried++
		if want {
			right++
		}
	})
	if right < n+1 || right == tried {
		t.Errorf("%d of %d are right", right, tried)
	}
}

// P10.1: all short lists of certain elements.
func TestEveryList(t *testing.T) {
	ranges := [][2]int{{0, 8}, {0, 16}, {0, 24}, {8, 16}, {8, 24}, {16, 24}}
	var inlines []api.Inline
	var vars []api.Var
	var depths []api.Depth
	var inits []api.Init
	for sec := range 2 {
		for _, r := range ranges {
			inlines = append(inlines, api.Inline{Sec: sec, From: r[0], To: r[1], Name: "n", File: "f", Line: 1})
			depths = append(depths, api.Depth{Sec: sec, From: r[0], To: r[1], Bytes: 8})
			for _, name := range []string{"a", "b"} {
				vars = append(vars, api.Var{Sec: sec, From: r[0], To: r[1], Name: name, N: len(vars) % 16})
			}
		}
		inits = append(inits, api.Init{Sym: sec, Order: 1 - 2*sec}, api.Init{Sym: 2})
	}
	everyList(t, inlines, 4, func(o *api.Object, l []api.Inline) { o.Inlines = l })
	everyList(t, vars, 3, func(o *api.Object, l []api.Var) { o.Vars = l })
	everyList(t, depths, 4, func(o *api.Object, l []api.Depth) { o.Depths = l })
	everyList(t, inits, 4, func(o *api.Object, l []api.Init) { o.Inits = l })
}

// P10.1: more short lists.
func TestEveryOtherList(t *testing.T) {
	var lines []api.Line
	var converts []api.Convert
	for sec := range 4 {
		for at := 0; at <= 24; at += 8 {
			lines = append(lines, api.Line{Sec: sec, At: at, File: "f", Line: 1 + sec})
		}
		for _, s := range []string{"a", "b", "\x80"} {
			converts = append(converts, api.Convert{Sec: sec, From: strings.Repeat(s, 32), Code: sec - 1})
		}
	}
	everyList(t, lines, 3, func(o *api.Object, l []api.Line) { o.Lines = l })
	everyList(t, converts, 3, func(o *api.Object, l []api.Convert) { o.Converts = l })
	var rels []api.Rel
	for _, r := range []api.Rel{{Sec: 0, Kind: api.RkCall}, {Sec: 1, Kind: api.RkCall}, {Sec: 2, Kind: api.RkWord}, {Sec: 2, Kind: api.RkDiff4}, {Sec: 3, Kind: api.RkDelta}} {
		for at := 0; at <= 12; at += modelWidths[r.Kind] {
			r.At = at
			rels = append(rels, r)
		}
	}
	everyList(t, rels, 4, func(o *api.Object, l []api.Rel) { o.Rels = l })
	var pieces []api.Piece
	for to := range 8 {
		for size := range 4 {
			pieces = append(pieces, api.Piece{Size: size, To: 2 * to})
		}
	}
	everyList(t, pieces, 3, func(o *api.Object, l []api.Piece) {
		o.Converts = []api.Convert{{Sec: 3, From: strings.Repeat("x", 32), Pieces: l}}
	})
	everyList(t, []int{-1, 0, 1, 2, 3, 4}, 4, func(o *api.Object, l []int) {
		o.Groups = []api.Group{{Name: "g", Secs: l}, {Name: "h", Secs: []int{2}}}
	})
	groups := []api.Group{{Name: "g"}}
	for _, name := range []string{"g", "h", "i"} {
		groups = append(groups, api.Group{Name: name, Secs: []int{0}}, api.Group{Name: name, Secs: []int{0, 1}}, api.Group{Name: name, Secs: []int{1}}, api.Group{Name: name, Secs: []int{1, 3}}, api.Group{Name: name, Secs: []int{2, 3}})
	}
	everyList(t, groups, 3, func(o *api.Object, l []api.Group) { o.Groups = l })
}

// P10.1: all short lists of sections and of symbols with certain names.
func TestEveryNaming(t *testing.T) {
	everyList(t, []string{"a", "b", "c", "", "a b"}, 4, func(o *api.Object, l []string) {
		*o = api.Object{Name: "o"}
		for i, s := range l {
			o.Secs = append(o.Secs, api.Section{Name: s, Kind: api.SkZero, Align: 1, Size: i})
		}
	})
	var names [][2]string
	for _, name := range []string{"a", "b", "ab", ""} {
		for _, version := range []string{"", "a", "b"} {
			names = append(names, [2]string{name, version})
		}
	}
	everyList(t, names, 3, func(o *api.Object, l [][2]string) {
		*o = api.Object{Name: "o"}
		for _, s := range l {
			o.Syms = append(o.Syms, api.Symbol{Name: s[0], Version: s[1], Bind: api.BdGlobal, Sec: -1})
		}
	})
}

// P1, P10.1, P10.2: objects with long lists do not take long.
func TestLongLists(t *testing.T) {
	const n = api.MaxSize / 8
	nop := instruction(api.OpNop, 0, 0, 0)
	o := api.Object{
		Name: "o",
		Secs: []api.Section{{Name: "c", Kind: api.SkCode, Align: 8, Size: 8 * n, Bytes: strings.Repeat(nop, n)}, {Name: "d", Kind: api.SkData, Align: 2, Size: 8 * n, Bytes: strings.Repeat("d", 8*n)}},
		Syms: []api.Symbol{{Name: "s", Bind: api.BdGlobal, Sec: -1}},
	}
	for i := range n {
		o.Inlines = append(o.Inlines, api.Inline{From: 0, To: 8 * (n - i), Name: "f", File: "f", Line: 1})
		o.Lines = append(o.Lines, api.Line{At: 8 * i, File: "f", Line: 1})
		o.Vars = append(o.Vars, api.Var{From: 8 * i, To: 8 * n, Name: "v"})
		o.Depths = append(o.Depths, api.Depth{From: 8 * i, To: 8 * (i + 1)})
		o.Inits = append(o.Inits, api.Init{})
		o.Rels = append(o.Rels, api.Rel{Sec: 1, At: 8 * i, Kind: api.RkDelta})
	}
	p, ok := Read(Bytes(o))
	if !ok || !slices.Equal(o.Inlines, p.Inlines) || !slices.Equal(o.Rels, p.Rels) {
		t.Error("not read")
	}
	if Form(o, 1) != digest.Sum("\x01\x02"+modelNum(8*n)+modelText(strings.Repeat("\x00\x00dddddd", n))) {
		t.Error("Form")
	}
	o.Inlines[n-1].To = 16
	if !Right(o) {
		t.Error("the last two inlined functions are equal")
	}
	o.Inlines[n-1].To = 24
	if Right(o) {
		t.Error("the last inlined function is too long")
	}
}
