package group

import (
	"math"
	"slices"
	"testing"

	"linchpin/api"
)

// pair returns two objects with a section and a group each.
func pair(a, b api.Section, relsA, relsB []api.Rel) []api.Object {
	l := objs(obj(secs(a), of("x", 0)), obj(secs(b), of("x", 0)))
	l[0].Rels, l[1].Rels = relsA, relsB
	return l
}

// checkPair compares what Keep says of two copies, in both orders, with what is expected.
func checkPair(t *testing.T, name string, l []api.Object, alike bool) {
	t.Helper()
	for range 2 {
		keep, differs := check(t, l)
		if len(keep) != 2 || kept(keep[0]) != "1" || kept(keep[1]) != "0" || (len(differs) == 0) != alike {
			t.Errorf("%s: %v, %v", name, keep, differs)
		}
		l = objs(l[1], l[0])
	}
}

// P12.2, P12.5: every field of a section, alone.
func TestFormFields(t *testing.T) {
	base := api.Section{Name: "s", Kind: api.SkData, Align: 8, Size: 3, Bytes: "abc"}
	with := func(change func(s *api.Section)) api.Section {
		s := base
		change(&s)
		return s
	}
	for _, x := range []struct {
		name  string
		s     api.Section
		alike bool
	}{
		{"the same", base, true},
		{"a name", with(func(s *api.Section) { s.Name = "t" }), false},
		{"no name", with(func(s *api.Section) { s.Name = "" }), false},
		{"a longer name", with(func(s *api.Section) { s.Name = "ss" }), false},
		{"SkCode", with(func(s *api.Section) { s.Kind = api.SkCode }), false},
		{"SkTls", with(func(s *api.Section) { s.Kind = api.SkTls }), false},
		{"no kind", with(func(s *api.Section) { s.Kind = api.SkKinds }), false},
		{"a negative kind", with(func(s *api.Section) { s.Kind = -1 }), false},
		{"another alignment", with(func(s *api.Section) { s.Align = 16 }), false},
		{"no alignment", with(func(s *api.Section) { s.Align = 0 }), false},
		{"a negative alignment", with(func(s *api.Section) { s.Align = -8 }), false},
		{"another size", with(func(s *api.Section) { s.Size = 4 }), false},
		{"no size", with(func(s *api.Section) { s.Size = 0 }), false},
		{"a negative size", with(func(s *api.Section) { s.Size = -3 }), false},
		{"a first byte", with(func(s *api.Section) { s.Bytes = "bbc" }), false},
		{"a last byte", with(func(s *api.Section) { s.Bytes = "abd" }), false},
		{"a byte less", with(func(s *api.Section) { s.Bytes = "ab" }), false},
		{"a zero more", with(func(s *api.Section) { s.Bytes = "abc\x00" }), false},
		{"no bytes", with(func(s *api.Section) { s.Bytes = "" }), false},
		{"kept", with(func(s *api.Section) { s.Keep = true }), true},
	} {
		checkPair(t, x.name, pair(base, x.s, nil, nil), x.alike)
		checkPair(t, x.name+", twice", pair(x.s, x.s, nil, nil), true)
	}
}

// P12.2: sections with negative numbers have no form, which is the same one for all of them.
func TestFormNone(t *testing.T) {
	l := secs(
		api.Section{Name: "s", Kind: -1},
		api.Section{Name: "s", Align: -1},
		api.Section{Name: "s", Size: -1},
		api.Section{Name: "s", Kind: math.MinInt, Align: 7, Size: 99, Bytes: "abc"},
	)
	for _, a := range l {
		for _, b := range l {
			checkPair(t, "no forms", pair(a, b, nil, nil), true)
			b.Name = "t"
			checkPair(t, "other names", pair(a, b, nil, nil), false)
		}
		checkPair(t, "one form", pair(a, api.Section{Name: "s"}, nil, nil), false)
	}
}

// P12.2: what relocations write does not count, and nothing else of them.
func TestFormRelocated(t *testing.T) {
	code := func(bytes string) api.Section {
		return api.Section{Name: "s", Kind: api.SkCode, Align: 8, Size: 16, Bytes: bytes}
	}
	rels := func(l ...api.Rel) []api.Rel { return l }
	for _, x := range []struct {
		name         string
		a, b         string
		relsA, relsB []api.Rel
		alike        bool
	}{
		{"no relocations", "ABCDEFGHabcdefgh", "ABCDEFGHabcdefgh", nil, nil, true},
		{"no relocations, other bytes", "ABCDEFGHabcdefgh", "ABCDEFGHabcdefgX", nil, nil, false},
		{"relocated bytes", "ABCDEFGHabcdefgh", "ABCDEFGHabcdXXXX", rels(api.Rel{At: 8, Kind: api.RkCall}), rels(api.Rel{At: 8, Kind: api.RkCall}), true},
		{"bytes before them", "ABCDEFGHabcdefgh", "ABCDEFGHabcXefgh", rels(api.Rel{At: 8, Kind: api.RkCall}), rels(api.Rel{At: 8, Kind: api.RkCall}), false},
		{"bytes of the instruction before", "ABCDEFGHabcdefgh", "ABCDEFGXabcdefgh", rels(api.Rel{At: 8, Kind: api.RkCall}), rels(api.Rel{At: 8, Kind: api.RkCall}), false},
		{"all relocated bytes", "ABCDEFGHabcdefgh", "ABCD1234abcd5678", rels(api.Rel{Kind: api.RkTls}, api.Rel{At: 8, Kind: api.RkLow}), rels(api.Rel{Kind: api.RkHigh}, api.Rel{At: 8, Kind: api.RkSlot}), true},
		{"one of two relocations", "ABCDEFGHabcdefgh", "ABCDEFGHabcdXXXX", rels(api.Rel{At: 8, Kind: api.RkCall}), nil, false},
		{"one of two relocations of zeros", "ABCDEFGHabcdefgh", "ABCDEFGHabcd\x00\x00\x00\x00", rels(api.Rel{At: 8, Kind: api.RkCall}), nil, true},
		{"other symbols and addends", "ABCDEFGHabcdefgh", "ABCDEFGHabcdefgh", rels(api.Rel{At: 8, Kind: api.RkCall}), rels(api.Rel{At: 8, Kind: api.RkCall, Sym: 3, Add: -4}), true},
		{"other kinds", "ABCDEFGHabcdefgh", "ABCDEFGHabcdXXXX", rels(api.Rel{At: 8, Kind: api.RkCall}), rels(api.Rel{At: 8, Kind: api.RkAddr}), true},
		{"words", "ABCDEFGHabcdefgh", "12345678abcdefgh", rels(api.Rel{Kind: api.RkWord}), rels(api.Rel{Kind: api.RkDiff}), true},
		{"a word and an instruction", "ABCDEFGHabcdefgh", "ABCD5678abcdefgh", rels(api.Rel{Kind: api.RkWord}), rels(api.Rel{Kind: api.RkAddr}), false},
		{"four bytes", "ABCDEFGHabcdefgh", "1234EFGHabcdefgh", rels(api.Rel{Kind: api.RkDiff4}), rels(api.Rel{Kind: api.RkDiff4}), true},
		{"two bytes", "ABCDEFGHabcdefgh", "12CDEFGHabcdefgh", rels(api.Rel{Kind: api.RkDelta}), rels(api.Rel{Kind: api.RkDelta}), true},
		{"two of four bytes", "ABCDEFGHabcdefgh", "1234EFGHabcdefgh", rels(api.Rel{Kind: api.RkDelta}), rels(api.Rel{Kind: api.RkDelta}), false},
		{"other sections", "ABCDEFGHabcdefgh", "ABCDEFGHabcdXXXX", rels(api.Rel{Sec: 1, At: 8, Kind: api.RkCall}), rels(api.Rel{Sec: -1, At: 8, Kind: api.RkCall}), false},
		{"fields that do not lie in the section", "ABCDEFGHabcdefgh", "ABCDEFGHabcdefgX", rels(api.Rel{At: 9, Kind: api.RkWord}), rels(api.Rel{At: 9, Kind: api.RkWord}), false},
		{"no kinds", "ABCDEFGHabcdefgh", "ABCDEFGXabcdefgh", rels(api.Rel{Kind: api.RkKinds}), rels(api.Rel{Kind: -1}), false},
		{"the same field twice", "ABCDEFGHabcdefgh", "ABCD1234abcdefgh", rels(api.Rel{Kind: api.RkAddr}, api.Rel{Kind: api.RkAddr}), rels(api.Rel{Kind: api.RkAddr}), true},
		{"in another order", "ABCDEFGHabcdefgh", "ABCD1234abcd5678", rels(api.Rel{Kind: api.RkAddr}, api.Rel{At: 8, Kind: api.RkAddr}), rels(api.Rel{At: 8, Kind: api.RkAddr}, api.Rel{Kind: api.RkAddr}), true},
	} {
		checkPair(t, x.name, pair(code(x.a), code(x.b), x.relsA, x.relsB), x.alike)
	}
}

// P12.2: the relocations of several sections, in any order; and what else is in the objects does not count.
func TestFormSections(t *testing.T) {
	word := func(name, bytes string) api.Section {
		return api.Section{Name: name, Kind: api.SkData, Align: 8, Size: 16, Bytes: bytes}
	}
	a := obj(secs(word("p", "AAAAAAAAaaaaaaaa"), word("q", "BBBBBBBBbbbbbbbb"), word("r", "CCCCCCCCcccccccc")), of("x", 0, 1, 2))
	a.Rels = []api.Rel{{Sec: 1, At: 8, Kind: api.RkWord}, {Sec: 0, At: 0, Kind: api.RkWord}, {Sec: 2, At: 8, Kind: api.RkDiff4}, {Sec: 1, At: 0, Kind: api.RkDelta}}
	// The relocated bytes of b are other ones, the sections and the relocations are in another order.
	b := obj(secs(word("r", "CCCCCCCC1234cccc"), word("p", "12345678aaaaaaaa"), word("q", "12BBBBBB12345678")), of("x", 1, 2, 0))
	b.Rels = []api.Rel{{Sec: 0, At: 8, Kind: api.RkDiff4}, {Sec: 2, At: 0, Kind: api.RkDelta}, {Sec: 1, At: 0, Kind: api.RkWord}, {Sec: 2, At: 8, Kind: api.RkWord}}
	checkTable(t, "the same but for relocated bytes", objs(a, b), "111 000")
	for i := range b.Rels {
		c := clone(b)
		c.Rels = slices.Delete(c.Rels, i, i+1)
		checkTable(t, "without a relocation", objs(a, c), "111 000", api.Differ{Name: "x", First: 0, Other: 1})
		checkTable(t, "without a relocation in the first object", objs(c, a), "111 000", api.Differ{Name: "x", First: 0, Other: 1})
		for sec := -1; sec < 4; sec++ {
			c := clone(b)
			c.Rels[i].Sec = sec
			if _, differs := check(t, objs(a, c)); (len(differs) == 0) != (sec == b.Rels[i].Sec) {
				t.Errorf("the relocation %d in the section %d: %v", i, sec, differs)
			}
		}
	}
	b.Name, b.Syms = "other", []api.Symbol{{Name: "s"}}
	b.Inits, b.Lines, b.Inlines = []api.Init{{}}, []api.Line{{}}, []api.Inline{{}}
	b.Vars, b.Depths, b.Converts = []api.Var{{}}, []api.Depth{{}}, []api.Convert{{}}
	checkTable(t, "with other parts", objs(a, b), "111 000")
}
