package version

import (
	"maps"
	"runtime/debug"
	"slices"
	"testing"

	"linchpin/api"
)

// P8.2: results written out by hand.
func TestLineTable(t *testing.T) {
	doc := list(def("b", "a"), def("a"), def("c", "b"))
	twice := list(def("d", "c", "b"), def("b", "a"), def("c", "a"), def("a"), def("e"), def("b", "e"))
	loop := list(def("a", "b"), def("b", "a", "z"))
	for _, x := range []struct {
		l    []api.VersionDef
		v    string
		want []string
	}{
		{nil, "q", []string{"q"}},
		{nil, "", []string{""}},
		{list(), "q", []string{"q"}},
		{doc, "c", []string{"c", "a", "b"}}, // the chapter's example
		{doc, "b", []string{"b", "a"}},
		{doc, "a", []string{"a"}},
		{doc, "x", []string{"x"}},
		{doc, "", []string{""}},
		{twice, "d", []string{"d", "a", "b", "c"}},
		{twice, "b", []string{"b", "a"}},
		{twice, "e", []string{"e"}},
		{loop, "a", []string{"a", "b", "z"}},
		{loop, "b", []string{"b", "a", "z"}},
		{loop, "z", []string{"z"}},
		{list(def("a", "a")), "a", []string{"a"}},
		{list(def("z", "z", "m", "z")), "z", []string{"z", "m"}},
		{list(def("m", "z", "a", "y", "b", "a", "z")), "m", []string{"m", "a", "b", "y", "z"}}, // itself first, whatever its place in the order is
		{list(def("a", "z", "b", "y")), "a", []string{"a", "b", "y", "z"}},
		{list(def("z", "c", "a", "b")), "z", []string{"z", "a", "b", "c"}},
		{list(def("m", "B", "a", "_", "10", "9", "")), "m", []string{"m", "", "10", "9", "B", "_", "a"}}, // byte by byte
		{list(def("m", "ab", "b", "a", "aa")), "m", []string{"m", "a", "aa", "ab", "b"}},
		{list(def("m", "\u00e9", "z", "\xff", "\x7f", "\xc3")), "m", []string{"m", "z", "\x7f", "\xc3", "\u00e9", "\xff"}},
		{list(def("a", "b"), def("a", "c"), def("b", "d"), def("b", "e")), "a", []string{"a", "b", "d"}},
		{list(def("", "b", ""), def("b", "")), "", []string{"", "b"}},
		{list(def("", "b", ""), def("b", "")), "b", []string{"b", ""}},
	} {
		if got := Line(x.l, x.v); !slices.Equal(got, x.want) {
			t.Errorf("%q: line of %q: %q; want %q", x.l, x.v, got, x.want)
		}
	}
}

// wantLine checks what a string serves in a long list.
func wantLine(t *testing.T, what string, l []api.VersionDef, v string, others []string) {
	t.Helper()
	got := Line(l, v)
	if len(got) == 0 || got[0] != v || !slices.Equal(got[1:], others) {
		t.Errorf("%s of %d: line of %q: %d strings; want %d", what, len(l), v, len(got), 1+len(others))
		return
	}
	for _, w := range []string{got[0], got[len(got)/2], got[len(got)-1]} {
		if !Serves(l, v, w) {
			t.Errorf("%s of %d: %q does not serve %q", what, len(l), v, w)
		}
	}
}

// P8.1, P8.2: chains and cycles that are longer than any in a right list, also far longer than the stack that calls may use.
func TestLongChains(t *testing.T) {
	defer debug.SetMaxStack(debug.SetMaxStack(1 << 22))
	for _, n := range []int{1, 2, api.MaxSyms - 1, api.MaxSyms, api.MaxSyms + 1, api.MaxSyms + 2, 2*api.MaxSyms - 1, 2 * api.MaxSyms, 2*api.MaxSyms + 1, 3*api.MaxSyms + 5, 1<<18 + 1} {
		open := chain(n, number(n))
		wantLine(t, "chain", open, number(0), numbers(1, n))
		wantLine(t, "chain", open, number(n/2), numbers(n/2+1, n))
		wantLine(t, "chain", open, number(n), nil)
		if Serves(open, number(n), number(0)) || Serves(open, number(1), number(0)) || Serves(open, number(0), number(n+1)) {
			t.Errorf("a chain of %d serves backwards, or too much", n)
		}
		slices.Reverse(open)
		wantLine(t, "turned chain", open, number(0), numbers(1, n))
		ring := chain(n, number(0))
		wantLine(t, "cycle", ring, number(0), numbers(1, n-1))
		wantLine(t, "cycle", ring, number(n-1), numbers(0, n-2))
	}
}

// P8.2: long chains from which others branch off in every place, and in which ways of different lengths meet.
func TestLongBranches(t *testing.T) {
	for _, n := range []int{100, api.MaxSyms, 3*api.MaxSyms + 1} {
		branches := chain(n, number(n))
		ladder := chain(n, number(n))
		turned := chain(n, number(n))
		back := chain(n, number(n))
		for i := range n {
			branches[i].Parents = []string{number(4*n + i), number(i + 1), number(2*n + i)}
			ladder[i].Parents = []string{number(i + 1), number(min(i+2, n)), number(min(i+1000, n))}
			turned[i].Parents = []string{number(min(i+7, n)), number(i + 1)}
			back[i].Parents = []string{number(i / 2), number(i + 1), number(0)}
		}
		wantLine(t, "branches", branches, number(0), slices.Concat(numbers(1, n), numbers(2*n, 3*n-1), numbers(4*n, 5*n-1)))
		wantLine(t, "ladder", ladder, number(0), numbers(1, n))
		wantLine(t, "ladder of sevens", turned, number(0), numbers(1, n))
		wantLine(t, "chain with ways back", back, number(0), numbers(1, n))
	}
}

// P8.3: results written out by hand.
func TestOrderTable(t *testing.T) {
	for _, x := range []struct {
		l    []api.VersionDef
		want []string
	}{
		{nil, nil},
		{list(), nil},
		{list(def("a")), []string{"a"}},
		{list(def("b", "a"), def("a"), def("c", "b")), []string{"a", "b", "c"}}, // the chapter's example
		{list(def("z"), def("y"), def("x")), []string{"x", "y", "z"}},
		{list(def("a", "z"), def("b"), def("z")), []string{"b", "z", "a"}}, // b and z could come
		{list(def("a", "m"), def("n", "a"), def("m"), def("z")), []string{"m", "a", "n", "z"}},
		{list(def("a", "z"), def("m"), def("z")), []string{"m", "z", "a"}},
		{list(def("a", "b"), def("b", "c"), def("c")), []string{"c", "b", "a"}},
		{list(def("a", "c"), def("b", "c"), def("c"), def("d")), []string{"c", "a", "b", "d"}}, // a and b as soon as c is listed
		{list(def("a", "d", "c"), def("b", "c"), def("c"), def("d")), []string{"c", "b", "d", "a"}},
		{list(def("c"), def("a", "b", "c"), def("b", "c")), []string{"c", "b", "a"}},
		{list(def("10"), def("9"), def("B"), def("_"), def("a"), def("aa"), def("A")), []string{"10", "9", "A", "B", "_", "a", "aa"}},
		{list(def("~", "!"), def("!"), def("x", "~")), []string{"!", "~", "x"}},
		{list(def("")), nil}, // lists that are not right
		{list(def("a"), def("b c")), nil},
		{list(def("a", "a")), nil},
		{list(def("a"), def("a")), nil},
		{list(def("a", "b")), nil},
		{list(def("b"), def("a", "b", "b")), nil},
		{list(def("a", "b"), def("b", "a")), nil},
		{list(def("x"), def("a", "b"), def("b", "c"), def("c", "a")), nil},
	} {
		if got := Order(x.l); !slices.Equal(got, x.want) {
			t.Errorf("%q: %q; want %q", x.l, got, x.want)
		}
	}
}

// P8.3: as many declarations as there can be, in every direction.
func TestLongestOrder(t *testing.T) {
	const n = api.MaxSyms
	up := numbers(0, n-1)
	down := slices.Clone(up)
	slices.Reverse(down)
	alone := chain(n)
	for i := range alone {
		alone[i].Parents = nil
	}
	rise := chain(n)
	fall := slices.Clone(alone)
	star := slices.Clone(alone)
	for i := 1; i < n; i++ {
		fall[i].Parents = up[i-1 : i]
		star[i-1].Parents = up[n-1:]
	}
	for what, x := range map[string]struct {
		l    []api.VersionDef
		want []string
	}{
		"alone":             {alone, up},
		"each the next one": {rise, down},
		"each the last one": {fall, up},
		"all the greatest":  {star, append(up[n-1:n:n], up[:n-1]...)},
	} {
		mixed := copied(x.l)
		mix(random(3), mixed)
		if !slices.Equal(Order(x.l), x.want) || !slices.Equal(Order(mixed), x.want) {
			t.Error(what)
		}
	}
	if Order(chain(n+1)) != nil || Order(append(alone, def("a"))) != nil {
		t.Error("too many")
	}
}

// P8.3: each name is behind its parents, and comes exactly once; the order of the list and of the parents has no influence.
func TestOrderOfParents(t *testing.T) {
	next := random(4)
	for range 300 {
		l := randomRight(next, next(60))
		order := Order(l)
		place := map[string]int{}
		for i, name := range order {
			place[name] = i
		}
		if len(order) != len(l) || len(place) != len(l) {
			t.Fatalf("%q: %q", l, order)
		}
		for _, d := range l {
			for _, p := range d.Parents {
				if place[p] >= place[d.Name] {
					t.Fatalf("%q: %q", l, order)
				}
			}
		}
		mixed := copied(l)
		mix(next, mixed)
		for _, d := range mixed {
			mix(next, d.Parents)
		}
		if got := Order(mixed); !slices.Equal(got, order) {
			t.Fatalf("%q: %q; in another order %q", l, order, got)
		}
	}
}

// behind returns the same list with further elements beyond the lengths of its slices.
func behind(l []api.VersionDef) []api.VersionDef {
	out := copied(l)
	for i, d := range out {
		out[i].Parents = append(slices.Clone(d.Parents), "beyond", "v0", "a")[:len(d.Parents)]
	}
	return append(out, def("beyond", "v0"), def("v0", "beyond"))[:len(l)]
}

// beyond returns the list with all elements beyond the lengths of its slices.
func beyond(l []api.VersionDef) []api.VersionDef {
	out := copied(l[:cap(l)])
	for i, d := range l[:cap(l)] {
		out[i].Parents = slices.Clone(d.Parents[:cap(d.Parents)])
	}
	return out
}

// P8.4: arguments are not modified, and nothing beyond their lengths is read or written.
func TestArgumentsStay(t *testing.T) {
	next := random(5)
	for i := range 1000 {
		l := randomList(next, 8)
		if i%2 == 0 {
			l = randomRight(next, next(9))
		}
		wide := behind(l)
		old := beyond(wide)
		check(t, wide)
		for _, s := range modelOf(l).strings {
			if !slices.Equal(Line(wide, s), Line(l, s)) {
				t.Fatalf("%q: the line of %q depends on what is beyond", l, s)
			}
		}
		if Right(wide) != Right(l) || !slices.Equal(Order(wide), Order(l)) || Serves(wide, "beyond", "v0") || Serves(wide, "v0", "beyond") {
			t.Fatalf("%q: what is beyond was read", l)
		}
		if !same(beyond(wide), old) || !same(wide, l) {
			t.Fatalf("%q was modified: %q, %q", l, wide, beyond(wide))
		}
	}
}

// answers returns the results that are slices.
func answers(l []api.VersionDef) [][]string {
	out := [][]string{Order(l)}
	for _, s := range modelOf(l).strings {
		out = append(out, Line(l, s))
	}
	return out
}

// P8.4: results share no memory with arguments, with each other or with anything that is kept.
func TestResultsAreNew(t *testing.T) {
	next := random(6)
	lists := [][]api.VersionDef{nil, list(def("a")), list(def("b", "a"), def("a"), def("c", "b")), list(def("a", "b"), def("b", "a", "z"))}
	for range 300 {
		lists = append(lists, randomList(next, 6), randomRight(next, next(7)))
	}
	for _, l := range lists {
		old := copied(l)
		want := answers(l)
		got := answers(l)
		for i, r := range got {
			whole := r[:cap(r)]
			for j := range whole {
				whole[j] = "other"
			}
			for k := range got[i+1:] {
				if !slices.Equal(got[i+1+k], want[i+1+k]) {
					t.Fatalf("%q: results %d and %d share memory", l, i, i+1+k)
				}
			}
		}
		if !same(l, old) {
			t.Fatalf("%q: a result shares memory with it", old)
		}
		if again := answers(l); !slices.EqualFunc(again, want, slices.Equal) {
			t.Fatalf("%q: %q, and again %q", l, want, again)
		}
		kept := answers(l)
		for i := range l {
			clear(l[i].Parents)
			l[i] = def("other")
		}
		if !slices.EqualFunc(kept, want, slices.Equal) {
			t.Fatalf("%q: results changed with it", old)
		}
		if again := answers(old); !slices.EqualFunc(again, want, slices.Equal) { // nor is anything kept of an earlier call
			t.Fatalf("%q: %q, and again %q", old, want, again)
		}
	}
}

// P8.5: in a right list, serving is a partial order, which Line agrees with, and of which Order is a continuation.
func TestPartialOrder(t *testing.T) {
	next := random(7)
	for range 150 {
		l := randomRight(next, 1+next(16))
		all := append(Order(l), "", "x", "v")
		if len(all) != len(l)+3 {
			t.Fatalf("%q: order %q", l, all)
		}
		serves := map[[2]string]bool{}
		for i, v := range all {
			line := Line(l, v)
			for j, w := range all {
				serves[[2]string{v, w}] = Serves(l, v, w)
				if Serves(l, v, w) != slices.Contains(line, w) || Serves(l, v, w) && j > i {
					t.Fatalf("%q: %q serves %q; %q, %q", l, v, w, line, all)
				}
			}
		}
		for _, v := range all {
			if !serves[[2]string{v, v}] {
				t.Fatalf("%q: %q does not serve itself", l, v)
			}
			for _, w := range all {
				if v != w && serves[[2]string{v, w}] && serves[[2]string{w, v}] {
					t.Fatalf("%q: %q and %q serve each other", l, v, w)
				}
				for _, x := range all {
					if serves[[2]string{v, w}] && serves[[2]string{w, x}] && !serves[[2]string{v, x}] {
						t.Fatalf("%q: %q serves %q, that serves %q", l, v, w, x)
					}
				}
			}
		}
	}
}

// P8.6: a further declaration with a new name that is no parent changes nothing for other strings.
func TestFurtherDeclaration(t *testing.T) {
	next := random(8)
	for i := range 600 {
		l := randomList(next, 7)
		if i%2 == 0 {
			l = randomRight(next, next(8))
		}
		all := modelOf(l).strings
		further := def("new")
		for range next(4) {
			further.Parents = append(further.Parents, all[next(len(all))])
		}
		longer := append(copied(l), further)
		for _, v := range all {
			if got, want := Line(longer, v), Line(l, v); !slices.Equal(got, want) {
				t.Fatalf("%q: the line of %q was %q and is %q", longer, v, want, got)
			}
			for _, w := range all {
				if Serves(longer, v, w) != Serves(l, v, w) {
					t.Fatalf("%q: %q serves %q is %v now", longer, v, w, Serves(longer, v, w))
				}
			}
			if Serves(longer, v, "new") {
				t.Fatalf("%q: %q serves the new one", longer, v)
			}
		}
		if Right(longer) {
			order := slices.DeleteFunc(Order(longer), func(s string) bool { return s == "new" })
			if !Right(l) || !slices.Equal(order, Order(l)) {
				t.Fatalf("%q: the order was %q and is %q", longer, Order(l), order)
			}
		}
		own := map[string]bool{"new": true}
		for _, p := range further.Parents {
			for _, s := range Line(l, p) {
				own[s] = true
			}
		}
		if got := Line(longer, "new"); !slices.Equal(slices.Sorted(slices.Values(got)), slices.Sorted(maps.Keys(own))) {
			t.Fatalf("%q: the line of the new one is %q", longer, got)
		}
	}
}
