package version

import (
	"slices"
	"strings"
	"testing"

	"linchpin/api"
)

// P8.1: lists written out by hand.
func TestRightTable(t *testing.T) {
	for _, x := range []struct {
		l    []api.VersionDef
		want bool
	}{
		{nil, true},
		{list(), true},
		{list(def("a")), true},
		{list(api.VersionDef{Name: "a", Parents: []string{}}), true},
		{list(api.VersionDef{}), false},
		{list(def("")), false},
		{list(def("a"), def("")), false},
		{list(def("a", "")), false},
		{list(def("a", ""), def("")), false},
		{list(def("a"), def("b")), true},
		{list(def("a"), def("A")), true},
		{list(def("a"), def("aa"), def("aaa")), true},
		{list(def("a"), def("a")), false},
		{list(def("a"), def("b"), def("a")), false},
		{list(def("b"), def("a", "b"), def("a", "b")), false},
		{list(def("a", "b")), false}, // a parent that is no declaration
		{list(def("a", "b"), def("c")), false},
		{list(def("a", "A"), def("aa")), false},
		{list(def("a", "b"), def("b")), true},
		{list(def("b"), def("a", "b")), true},
		{list(def("a", "b", "c"), def("b")), false},
		{list(def("a", "c", "b"), def("b")), false},
		{list(def("a"), def("b", "a", "c")), false},
		{list(def("a", "b", "b"), def("b")), false}, // a parent twice
		{list(def("a", "b", "c", "b"), def("b"), def("c")), false},
		{list(def("a", "c"), def("b", "c"), def("c")), true}, // a parent of two declarations
		{list(def("a", "a")), false},                         // its own parent
		{list(def("b", "a", "b"), def("a")), false},
		{list(def("a"), def("b"), def("c", "c")), false},
		{list(def("a", "b"), def("b", "a")), false}, // longer cycles
		{list(def("c"), def("a", "c", "b"), def("b", "a")), false},
		{list(def("a", "b"), def("b", "c"), def("c", "a")), false},
		{list(def("c", "a"), def("a", "b"), def("b", "c"), def("d")), false},
		{list(def("d", "a"), def("a", "b"), def("b", "c"), def("c", "b")), false},
		{list(def("a", "b", "c", "d"), def("b", "c", "d"), def("c", "d"), def("d")), true},
		{list(def("d", "b", "c"), def("b", "a"), def("c", "a"), def("a")), true},
		{list(def("d", "b", "c"), def("b", "a"), def("c", "a"), def("a", "d")), false},
		{list(def("a", "b"), def("a", "c"), def("b"), def("c")), false},
		{list(def("b", "a"), def("a"), def("c", "b")), true}, // the chapter's example
	} {
		if got := Right(x.l); got != x.want {
			t.Errorf("%q: %v", x.l, got)
		}
	}
}

// P8.1: names of every length around the bounds.
func TestLengthOfNames(t *testing.T) {
	for n := range 2*api.MaxName + 2 {
		for _, c := range []string{"!", "a", "~"} {
			s := strings.Repeat(c, n)
			want := n >= 1 && n <= api.MaxName
			if got := Right(list(def(s))); got != want {
				t.Errorf("%d times %q: %v", n, c, got)
			}
			if got := Right(list(def("b", s), def(s))); got != want {
				t.Errorf("%d times %q as a parent: %v", n, c, got)
			}
			if got := len(Order(list(def("b"), def(s)))) == 2; got != want {
				t.Errorf("%d times %q in order: %v", n, c, got)
			}
		}
	}
	if Right(list(def(strings.Repeat("a", 1<<20)))) {
		t.Error("2^20 bytes")
	}
}

// P8.1: every byte in every place of names of several lengths.
func TestBytesOfNames(t *testing.T) {
	for b := range 256 {
		want := b >= 33 && b <= 126
		for _, n := range []int{1, 2, 3, 17, api.MaxName - 1, api.MaxName} {
			for place := range n {
				s := []byte(strings.Repeat("x", n))
				s[place] = byte(b)
				if got := Right(list(def("yy"), def(string(s)), def("zz"))); got != want {
					t.Fatalf("byte %d in place %d of %d: %v", b, place, n, got)
				}
			}
		}
	}
	for _, s := range []string{" ", "a b", "a ", " a", "\x00", "a\x00", "\x7f", "a\n", "\t", "\x80", "\xff", "\u00e9", "\u00e9\u00e8", "a\u0301", "\u2028", "\ufffd", "\U0001f600", "\xc3"} {
		if Right(list(def(s))) {
			t.Errorf("%q is right", s)
		}
	}
}

// P8.1: as many declarations as allowed, and one more.
func TestNumberOfDeclarations(t *testing.T) {
	all := numbers(0, api.MaxSyms)
	for _, n := range []int{api.MaxSyms - 1, api.MaxSyms, api.MaxSyms + 1, 2 * api.MaxSyms} {
		var alone, star []api.VersionDef
		for i := range n {
			alone = append(alone, def(number(i)))
			star = append(star, def(number(i), number(n-1)))
		}
		star[n-1].Parents = nil
		want := n <= api.MaxSyms
		for what, l := range map[string][]api.VersionDef{"alone": alone, "star": star, "chain": chain(n)} {
			if got := Right(l); got != want {
				t.Errorf("%d, %s: %v", n, what, got)
			}
			if got := len(Order(l)) == n; got != want {
				t.Errorf("%d, %s: order %v", n, what, got)
			}
			last := l[n-1].Name
			if got := Serves(l, number(0), last); got != (what != "alone") { // whether or not it is right
				t.Errorf("%d, %s: serves %v", n, what, got)
			}
		}
		if Right(chain(n, number(0))) || Right(chain(n, number(n/2))) || Right(chain(n, number(n-1))) || Right(chain(n, number(n))) || Right(chain(n, "")) {
			t.Errorf("a wrong chain of %d is right", n)
		}
	}
	var dense []api.VersionDef
	for i := range 400 {
		dense = append(dense, def(all[i], all[:i]...))
	}
	if !Right(dense) {
		t.Error("all before it as parents")
	}
	dense[0].Parents = all[399:400]
	if Right(dense) {
		t.Error("the last one as the parent of the first one")
	}
	if Right(make([]api.VersionDef, api.MaxSyms)) || Right(make([]api.VersionDef, 1<<20)) {
		t.Error("empty names")
	}
	if Right(list(def("a", slices.Repeat([]string{"b"}, 1<<20)...), def("b"))) || Right(list(def("a", numbers(0, 1<<20)...), def("b"))) {
		t.Error("too many parents")
	}
}

// P8.1: one thing is wrong, in every place of a list that is right otherwise.
func TestOneThingWrong(t *testing.T) {
	next := random(1)
	for range 60 {
		l := randomRight(next, 2+next(9))
		wrong := func(what string, change func(d *api.VersionDef)) {
			for i := range l {
				m := copied(l)
				change(&m[i])
				if Right(m) != modelOf(m).right() || !same(m, l) && len(what) > 0 && Right(m) {
					t.Fatalf("%s: %q: %v", what, m, Right(m))
				}
			}
		}
		if !Right(l) {
			t.Fatalf("%q is not right", l)
		}
		for j := range l {
			wrong("a name twice", func(d *api.VersionDef) { d.Name = l[j].Name })
			wrong("", func(d *api.VersionDef) { d.Parents = append(d.Parents, l[j].Name) })
			wrong("", func(d *api.VersionDef) { d.Parents = []string{l[j].Name} })
		}
		for _, s := range []string{"", "v 1", "v\x7f", strings.Repeat("v", api.MaxName+1)} {
			wrong("no name", func(d *api.VersionDef) { d.Name = s })
		}
		for at := range len(l) {
			wrong("no declaration", func(d *api.VersionDef) {
				d.Parents = slices.Insert(d.Parents, min(at, len(d.Parents)), "w")
			})
			wrong("a parent twice", func(d *api.VersionDef) {
				if len(d.Parents) > 0 {
					d.Parents = slices.Insert(d.Parents, min(at, len(d.Parents)), d.Parents[at%len(d.Parents)])
				}
			})
		}
		wrong("its own parent", func(d *api.VersionDef) { d.Parents = append(d.Parents, d.Name) })
		wrong("its own parent", func(d *api.VersionDef) { d.Parents = slices.Insert(d.Parents, 0, d.Name) })
	}
}

// P8.1: cycles of every length, in every order of the declarations of a short one, beside others.
func TestCycles(t *testing.T) {
	for n := 1; n <= 40; n++ {
		for start := range n {
			ring := chain(n, number(0))
			ring = append(ring[start:], ring[:start]...)
			l := append(list(def("a", number(0)), def("b")), ring...)
			if Right(ring) || Right(l) || Order(ring) != nil || Order(l) != nil {
				t.Errorf("a cycle of %d from %d is right", n, start)
			}
			open := copied(l)
			open[2+start].Parents = nil
			if !Right(open) {
				t.Errorf("%d without one link is not right", n)
			}
			for _, d := range ring {
				if got := Line(l, d.Name); len(got) != n || !Serves(l, d.Name, number(0)) || Serves(l, d.Name, "a") || !Serves(l, "a", d.Name) {
					t.Errorf("a cycle of %d: %q", n, got)
				}
			}
		}
	}
}

// P8.1: results written out by hand.
func TestServesTable(t *testing.T) {
	doc := list(def("b", "a"), def("a"), def("c", "b"))
	twice := list(def("d", "b", "c"), def("b", "a"), def("c", "a"), def("a"), def("e"), def("b", "e"), def("a", "e"))
	loop := list(def("a", "b"), def("b", "a", "z"))
	odd := list(def("", "a b"), def("a b", "\xff", "\x00"), def("\xff", strings.Repeat("n", 100)), def("z", ""))
	for _, x := range []struct {
		l          []api.VersionDef
		have, want string
		ok         bool
	}{
		{nil, "", "", true},
		{nil, "a", "a", true},
		{nil, "a", "b", false},
		{nil, "", "a", false},
		{nil, "a", "", false},
		{nil, "a", "A", false},
		{nil, "a", "aa", false},
		{nil, "aa", "a", false},
		{doc, "c", "a", true}, // the chapter's examples
		{doc, "a", "c", false},
		{doc, "c", "b", true},
		{doc, "b", "a", true},
		{doc, "b", "c", false},
		{doc, "a", "b", false},
		{doc, "a", "a", true},
		{doc, "x", "x", true}, // strings that are not in the list
		{doc, "x", "a", false},
		{doc, "c", "x", false},
		{doc, "x", "y", false},
		{doc, "", "", true},
		{doc, "", "a", false},
		{doc, "c", "", false},
		{list(def("a", "a")), "a", "b", false},
		{list(def("a", "a")), "a", "a", true},
		{list(def("a", "a", "b")), "a", "b", true},
		{twice, "d", "a", true}, // the first declaration with a name counts
		{twice, "d", "b", true},
		{twice, "d", "c", true},
		{twice, "b", "e", false},
		{twice, "a", "e", false},
		{twice, "d", "e", false},
		{twice, "b", "c", false},
		{twice, "c", "a", true},
		{list(def("a"), def("a", "b")), "a", "b", false}, // also without parents
		{list(def("a", "b"), def("a")), "a", "b", true},
		{list(def("a", "b"), def("a", "c"), def("a", "d")), "a", "b", true},
		{list(def("a", "b"), def("a", "c"), def("a", "d")), "a", "c", false},
		{list(def("a", "b"), def("a", "c"), def("a", "d")), "a", "d", false},
		{list(def("x", "a"), def("a", "b"), def("a", "c")), "x", "b", true},
		{list(def("x", "a"), def("a", "b"), def("a", "c")), "x", "c", false},
		{loop, "a", "z", true}, // a cycle, and a parent that is no declaration
		{loop, "b", "a", true},
		{loop, "a", "b", true},
		{loop, "z", "a", false},
		{loop, "z", "z", true},
		{list(def("a", "q")), "a", "q", true},
		{list(def("a", "q")), "q", "a", false},
		{list(def("a", "b", "b", "c", "b"), def("c", "d")), "a", "d", true}, // a parent twice
		{odd, "z", "", true}, // strings that are no names
		{odd, "z", "\x00", true},
		{odd, "", "\xff", true},
		{odd, "", strings.Repeat("n", 100), true},
		{odd, "", strings.Repeat("n", 99), false},
		{odd, "", "a", false},
		{odd, "a b", "", false},
	} {
		if got := Serves(x.l, x.have, x.want); got != x.ok {
			t.Errorf("%q: %q serves %q: %v", x.l, x.have, x.want, got)
		}
	}
}

// check compares everything that the functions return for a list with the definitions.
func check(t *testing.T, l []api.VersionDef) {
	t.Helper()
	m := modelOf(l)
	if got, want := Right(l), m.right(); got != want {
		t.Fatalf("%q: right: %v; want %v", l, got, want)
	}
	if got, want := Order(l), m.order(); !slices.Equal(got, want) {
		t.Fatalf("%q: order %q; want %q", l, got, want)
	}
	for _, v := range m.strings {
		if got, want := Line(l, v), m.line(v); !slices.Equal(got, want) {
			t.Fatalf("%q: line of %q: %q; want %q", l, v, got, want)
		}
		for _, w := range m.strings {
			if got, want := Serves(l, v, w), m.serves[[2]string{v, w}]; got != want {
				t.Fatalf("%q: %q serves %q: %v; want %v", l, v, w, got, want)
			}
		}
	}
}

// declarations returns all declarations with certain names and up to most of certain parents.
func declarations(names, parents []string, most int) []api.VersionDef {
	lists := [][]string{nil}
	for from, n := 0, 0; n < most; n++ {
		to := len(lists)
		for _, l := range lists[from:to] {
			for _, p := range parents {
				lists = append(lists, append(slices.Clone(l), p))
			}
		}
		from = to
	}
	var out []api.VersionDef
	for _, name := range names {
		for _, l := range lists {
			out = append(out, def(name, l...))
		}
	}
	return out
}

// P8.1 to P8.3: every short list with certain names and parents, against the definitions.
func TestEveryShortList(t *testing.T) {
	check(t, nil)
	two := declarations([]string{"a", "b", ""}, []string{"a", "b", "", "d"}, 3)
	for _, d := range two {
		check(t, list(d))
		for _, e := range two {
			check(t, list(d, e))
		}
	}
	three := declarations([]string{"a", "b", "c"}, []string{"a", "b", "c"}, 1)
	more := append(three, def("a", "b", "c"), def("b", "a", "c"), def("c", "b", "a"), def("b", "d"))
	for _, d := range more {
		for _, e := range more {
			for _, f := range more {
				check(t, list(d, e, f))
				for _, g := range three {
					check(t, list(d, e, f, g))
				}
			}
		}
	}
}

// P8.1 to P8.3: longer lists, right ones and others, against the definitions.
func TestLongerLists(t *testing.T) {
	next := random(2)
	for range 1500 {
		check(t, randomList(next, 1+next(9)))
		check(t, randomRight(next, next(12)))
	}
	for range 12 {
		check(t, randomList(next, 40))
		check(t, randomRight(next, 30))
	}
}
