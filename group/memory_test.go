package group

import (
	"reflect"
	"slices"
	"strconv"
	"strings"
	"sync"
	"testing"

	"linchpin/api"
)

// P12.3: arguments are not modified.
func TestArguments(t *testing.T) {
	for seed := range 500 {
		next := random(uint64(seed))
		l, _ := randomLink(next, true)
		if seed%2 == 0 {
			l = randomWild(next)
		}
		before := clone(l)
		Keep(l)
		if !reflect.DeepEqual(l, before) {
			t.Fatalf("%d: an argument is modified", seed)
		}
	}
}

// P12.3: what lies behind the ends of the lists of arguments is neither read nor modified.
func TestBehindEnds(t *testing.T) {
	three := secs(data("a", "12345678"), data("b", "12345678"), data("c", "12345678"))
	rels := []api.Rel{{Kind: api.RkWord}, {Sec: 1, Kind: api.RkWord}, {Sec: 2, Kind: api.RkWord}}
	whole := objs(obj(three, of("x", 0, 1), of("y", 0)), obj(three, of("x", 0, 1), of("x", 0)), obj(three, of("x", 2)))
	for i := range whole {
		whole[i] = clone(whole[i])
		whole[i].Rels = slices.Clone(rels)
	}
	before := clone(whole)
	cut := slices.Clone(whole[:2])
	for i := range cut {
		cut[i].Secs, cut[i].Groups, cut[i].Rels = cut[i].Secs[:2], slices.Clone(cut[i].Groups[:1]), cut[i].Rels[:2]
		cut[i].Groups[0].Secs = cut[i].Groups[0].Secs[:1]
	}
	l := append(cut, whole[2])[:2]
	checkTable(t, "cut lists", l, "11 01")
	checkTable(t, "cut groups", objs(obj(three, whole[0].Groups[:1]...), obj(three, whole[1].Groups[:1]...)), "111 001")
	b := obj(secs(data("a", "1234567X")), of("x", 0))
	b.Rels = append([]api.Rel{{Sec: 3}}, rels[0])[:1]
	checkTable(t, "a relocation behind the end", objs(obj(three[:1], of("x", 0)), b), "1 0", api.Differ{Name: "x", First: 0, Other: 1})
	if !reflect.DeepEqual(whole, before) {
		t.Error("something is modified")
	}
}

// P12.3: results are fresh, and share no memory with each other or with later results.
func TestResults(t *testing.T) {
	three := secs(data("a", "1"), data("b", "2"), data("c", "3"))
	l := objs(obj(three, of("x", 0)), obj(three), obj(three, of("x", 1), of("x", 2)), obj(three, of("x", 1)))
	keep, differs := Keep(l)
	again, differsAgain := Keep(l)
	for i := range keep {
		for j := range keep[i] {
			keep[i][j] = !keep[i][j]
		}
		for range 9 {
			_ = append(keep[i], true, false)
		}
		for j := i + 1; j < len(keep); j++ {
			if !slices.Equal(keep[j], again[j]) {
				t.Errorf("the lists %d and %d share memory", i, j)
			}
		}
	}
	clear(differs)
	clear(keep)
	last, differsLast := Keep(l)
	if len(differs) != 3 || !sameKeep(again, last) || !slices.Equal(differsAgain, differsLast) {
		t.Errorf("%v, %v; %v, %v", again, differsAgain, last, differsLast)
	}
	check(t, l)
}

// P12.3: a later modification of arguments is not seen in results.
func TestRetained(t *testing.T) {
	l, _ := randomLink(random(7), true)
	keep, differs := Keep(l)
	wantKeep, wantDiffers := clone(keep), clone(differs)
	for i := range l {
		for j := range l[i].Groups {
			clear(l[i].Groups[j].Secs)
		}
		clear(l[i].Groups)
		clear(l[i].Secs)
	}
	if len(differs) == 0 || !sameKeep(keep, wantKeep) || !slices.Equal(differs, wantDiffers) {
		t.Error("results are modified")
	}
}

// P12.3: results do not depend on earlier calls, or on calls at the same time.
func TestCalls(t *testing.T) {
	var all [][]api.Object
	for seed := range 40 {
		l, _ := randomLink(random(uint64(seed)+100), true)
		all = append(all, l, randomWild(random(uint64(seed))))
	}
	var done sync.WaitGroup
	for from := range 4 {
		done.Go(func() {
			for i := range 3 * len(all) {
				l := all[(from*17+i*7)%len(all)]
				keep, differs := Keep(l)
				wantKeep, wantDiffers := modelKeep(l)
				if !sameKeep(keep, wantKeep) || !slices.Equal(differs, wantDiffers) {
					t.Errorf("%v, %v; want %v, %v", keep, differs, wantKeep, wantDiffers)
				}
			}
		})
	}
	done.Wait()
}

// P12.1, P12.2: as many objects and sections as a recipe can have, each one in a group.
func TestManyObjects(t *testing.T) {
	var l []api.Object
	for i := range api.MaxObjs {
		o := api.Object{Name: letter(i)}
		for j := range api.MaxSecs {
			bytes := "same"
			if j == i {
				bytes = "else"
			}
			o.Secs = append(o.Secs, data(letter(j), bytes))
			o.Groups = append(o.Groups, of(letter(j), j))
		}
		l = append(l, o)
	}
	keep, differs := Keep(l)
	if len(keep) != api.MaxObjs || len(differs) != 2*(api.MaxObjs-1) {
		t.Fatalf("%d lists, %d different copies", len(keep), len(differs))
	}
	for i := range keep {
		if kept(keep[i]) != strings.Repeat(strconv.Itoa(min(i, 1)^1), api.MaxSecs) {
			t.Errorf("%d: %v", i, keep[i])
		}
		// The section 0 differs from the one in the first object, and so does the section with the number of the object.
		if i > 0 && (differs[2*i-2] != api.Differ{Name: letter(0), First: 0, Other: i} || differs[2*i-1] != api.Differ{Name: letter(i), First: 0, Other: i}) {
			t.Errorf("%d: %v", i, differs[2*i-2:2*i])
		}
	}
}

// P12.1, P12.2: a large section in many groups, and many times in one.
func TestLargeSection(t *testing.T) {
	bytes := strings.Repeat("x", api.MaxSize)
	var groups []api.Group
	for i := range 1 << 14 {
		groups = append(groups, of(letter(i), 0))
	}
	checkLarge(t, obj(secs(data("s", bytes)), groups...), obj(secs(data("s", bytes)), groups...), 0)
	checkLarge(t, obj(secs(data("s", bytes)), groups...), obj(secs(data("s", bytes[1:]+"y")), groups...), 1<<14)
	checkLarge(t, obj(secs(data("s", bytes)), of("x", make([]int, 1<<20)...)), obj(secs(data("s", bytes)), of("x", make([]int, 1<<20)...)), 0)
}

// checkLarge compares what Keep says of two objects with one section each with what is expected.
func checkLarge(t *testing.T, a, b api.Object, different int) {
	t.Helper()
	keep, differs := Keep(objs(a, b))
	if len(keep) != 2 || kept(keep[0]) != "1" || kept(keep[1]) != "0" || len(differs) != different {
		t.Errorf("%v, %d different copies", keep, len(differs))
	}
}

// P12.1, P12.2: many sections with a relocation each, all of them in groups.
func TestManyRelocations(t *testing.T) {
	const n = 1 << 16
	var o, p api.Object
	var all []int
	for i := range n {
		all = append(all, i)
		o.Secs = append(o.Secs, data(letter(i), "12345678"))
		p.Secs = append(p.Secs, data(letter(i), "87654321"))
		o.Rels = append(o.Rels, api.Rel{Sec: i, Kind: api.RkWord})
	}
	p.Rels = o.Rels
	o.Groups = []api.Group{of("all", all...)}
	p.Groups = o.Groups
	keep, differs := Keep(objs(o, p))
	if len(differs) != 0 || kept(keep[0]) != strings.Repeat("1", n) || kept(keep[1]) != strings.Repeat("0", n) {
		t.Errorf("%v", differs)
	}
	p.Rels = p.Rels[:n-1]
	if _, differs = Keep(objs(o, p)); !slices.Equal(differs, []api.Differ{{Name: "all", First: 0, Other: 1}}) {
		t.Errorf("%v", differs)
	}
}
