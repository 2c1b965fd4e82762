package group

import (
	"math"
	"slices"
	"strings"
	"testing"

	"linchpin/api"
)

// checkTable compares the results of Keep with those that are written by hand: the kept sections of each object as ones, separated by spaces.
func checkTable(t *testing.T, name string, objs []api.Object, want string, differs ...api.Differ) {
	t.Helper()
	keep, got := Keep(objs)
	var l []string
	for _, k := range keep {
		l = append(l, kept(k))
	}
	if len(keep) != len(objs) || strings.Join(l, " ") != want || !slices.Equal(got, differs) {
		t.Errorf("%s: %q, %v; want %q, %v", name, l, got, want, differs)
	}
	check(t, objs)
}

// P12.1: which sections are kept.
func TestKeepTable(t *testing.T) {
	three := secs(data("a", "1"), data("b", "22"), data("c", "3"))
	for _, x := range []struct {
		name string
		objs []api.Object
		want string
	}{
		{"no list", nil, ""},
		{"no objects", objs(), ""},
		{"nothing in an object", objs(api.Object{}), ""},
		{"nothing in two objects", objs(api.Object{}, api.Object{}), " "},
		{"sections, and no groups", objs(obj(three), obj(nil), obj(three[:1])), "111  1"},
		{"the same object twice, without groups", objs(obj(three), obj(three)), "111 111"},
		{"a group", objs(obj(three, of("x", 0, 2))), "111"},
		{"two groups", objs(obj(three, of("x", 0), of("y", 1, 2))), "111"},
		{"a group in two objects", objs(obj(three, of("x", 1)), obj(three, of("x", 1))), "111 101"},
		{"the first section", objs(obj(three, of("x", 0)), obj(three, of("x", 0))), "111 011"},
		{"the last section", objs(obj(three, of("x", 2)), obj(three, of("x", 2))), "111 110"},
		{"all sections", objs(obj(three, of("x", 0, 1, 2)), obj(three, of("x", 0, 1, 2))), "111 000"},
		{"a group in three objects", objs(obj(three, of("x", 1)), obj(three, of("x", 1)), obj(three, of("x", 1))), "111 101 101"},
		{"a group not in the first object", objs(obj(three), obj(three, of("x", 0)), obj(three), obj(three, of("x", 0))), "111 111 111 011"},
		{"two groups in other orders", objs(obj(three, of("x", 0), of("y", 1)), obj(three, of("y", 1), of("x", 0))), "111 001"},
		{"one of two groups", objs(obj(three, of("x", 0), of("y", 1)), obj(three, of("z", 0), of("y", 1))), "111 101"},
		{"the first ones of two groups in two objects", objs(obj(three, of("x", 0)), obj(three, of("y", 1)), obj(three, of("y", 1), of("x", 0))), "111 111 001"},
		{"a section with the name of a group", objs(obj(three, of("a", 1)), obj(three, of("b", 1))), "111 111"},
		{"an object with the name of a group", objs(obj(three, of("o", 1)), obj(three)), "111 111"},
	} {
		checkTable(t, x.name, x.objs, x.want)
	}
}

// P12.1, P12.2: groups with the same name in one object.
func TestSameObject(t *testing.T) {
	three := secs(data("a", "1"), data("b", "22"), data("c", "3"))
	alike := secs(data("a", "1"), data("a", "1"), data("a", "1"))
	checkTable(t, "two", objs(obj(three, of("x", 0), of("x", 2))), "110", api.Differ{Name: "x"})
	checkTable(t, "two in the other order", objs(obj(three, of("x", 2), of("x", 0))), "011", api.Differ{Name: "x"})
	checkTable(t, "three", objs(obj(three, of("x", 1), of("x", 0), of("x", 2))), "010", api.Differ{Name: "x"}, api.Differ{Name: "x"})
	checkTable(t, "two with the same section", objs(obj(three, of("x", 1), of("x", 1))), "101")
	checkTable(t, "three, of which two have the same section", objs(obj(three, of("x", 1), of("x", 2), of("x", 1))), "100", api.Differ{Name: "x"})
	checkTable(t, "three that are alike", objs(obj(alike, of("x", 0), of("x", 1), of("x", 2))), "100")
	checkTable(t, "two names", objs(obj(alike, of("x", 0), of("y", 2), of("x", 1))), "101")
	checkTable(t, "in the second object", objs(obj(three), obj(three, of("x", 0), of("x", 1))), "111 101", api.Differ{Name: "x", First: 1, Other: 1})
	checkTable(t, "in two objects", objs(obj(three, of("x", 0), of("x", 1)), obj(three, of("x", 0), of("x", 1))), "101 001",
		api.Differ{Name: "x", First: 0, Other: 0}, api.Differ{Name: "x", First: 0, Other: 1})
}

// P12.1, P12.2: sections that belong to two groups, and twice to the same one.
func TestTwoGroups(t *testing.T) {
	three := secs(data("a", "1"), data("b", "22"), data("c", "3"))
	checkTable(t, "kept in both", objs(obj(three, of("x", 0, 1), of("y", 1, 2))), "111")
	checkTable(t, "dropped in the first one", objs(obj(three, of("x", 0)), obj(three, of("x", 0), of("y", 0))), "111 011")
	checkTable(t, "dropped in the second one", objs(obj(three, of("x", 0)), obj(three, of("y", 0), of("x", 0))), "111 011")
	checkTable(t, "dropped in both", objs(obj(three, of("x", 0), of("y", 0)), obj(three, of("x", 0), of("y", 0))), "111 011")
	checkTable(t, "dropped in one object", objs(obj(three, of("x", 0, 1), of("x", 1, 2))), "100", api.Differ{Name: "x"})
	checkTable(t, "dropped in one object by another name", objs(obj(three, of("x", 0), of("y", 0, 1), of("x", 0))), "011")
	checkTable(t, "the copy that is kept is dropped in part", objs(obj(three, of("x", 0)), obj(three, of("x", 0), of("y", 0, 1)), obj(three, of("y", 0, 1))), "111 011 001")
	checkTable(t, "twice in a kept copy", objs(obj(three, of("x", 1, 1)), obj(three, of("x", 1))), "111 101", api.Differ{Name: "x", First: 0, Other: 1})
	checkTable(t, "twice in a dropped copy", objs(obj(three, of("x", 1)), obj(three, of("x", 1, 1))), "111 101", api.Differ{Name: "x", First: 0, Other: 1})
	checkTable(t, "twice in both", objs(obj(three, of("x", 1, 1)), obj(three, of("x", 1, 1))), "111 101")
	checkTable(t, "twice, and another one twice", objs(obj(three, of("x", 1, 1, 0)), obj(three, of("x", 1, 0, 0))), "111 001", api.Differ{Name: "x", First: 0, Other: 1})
}

// P12.1, P12.2: numbers that are the indices of no section do not count.
func TestNoIndices(t *testing.T) {
	three := secs(data("a", "1"), data("b", "22"), data("c", "3"))
	checkTable(t, "only such", objs(obj(three, of("x", -1)), obj(three, of("x", 3))), "111 111")
	checkTable(t, "only such in the kept copy", objs(obj(three, of("x", -1)), obj(three, of("x", 1))), "111 101", api.Differ{Name: "x", First: 0, Other: 1})
	checkTable(t, "only such in the dropped copy", objs(obj(three, of("x", 1)), obj(three, of("x", 3))), "111 111", api.Differ{Name: "x", First: 0, Other: 1})
	checkTable(t, "no sections", objs(obj(three, of("x")), obj(three, of("x"))), "111 111")
	checkTable(t, "no sections in the kept copy", objs(obj(three, of("x")), obj(three, of("x", 0)), obj(three, of("x"))), "111 011 111", api.Differ{Name: "x", First: 0, Other: 1})
	checkTable(t, "no sections in the object", objs(obj(nil, of("x", 0)), obj(three, of("x"))), " 111")
	for _, far := range []int{-1, -2, -3, 3, 4, 1 << 32, 1<<32 + 1, math.MinInt, math.MinInt + 1, math.MaxInt} {
		for i := range 3 {
			with := slices.Insert([]int{0, 2}, i, far)
			checkTable(t, "in the kept copy", objs(obj(three, of("x", with...)), obj(three, of("x", 0, 2))), "111 010")
			checkTable(t, "in the dropped copy", objs(obj(three, of("x", 0, 2)), obj(three, of("x", with...))), "111 010")
			checkTable(t, "in both", objs(obj(three, of("x", far, far, 0, 2)), obj(three, of("x", with...))), "111 010")
		}
	}
	// What is an index in one object is none in another one.
	checkTable(t, "other numbers of sections", objs(obj(three[:2], of("x", 0, 1, 2)), obj(three, of("x", 0, 1, 2)), obj(three[:1], of("x", 0, 1, 2))), "11 000 0",
		api.Differ{Name: "x", First: 0, Other: 1}, api.Differ{Name: "x", First: 0, Other: 2})
}

// P12.1, P12.2: names are strings of any bytes, and are compared by all of them.
func TestNames(t *testing.T) {
	l := []string{"", "x", "X", "xx", "x ", " x", "y", "x\x00", "\x00x", "\x00", "\xff", "\xfe", "\u00e9", "e\u0301", "e", strings.Repeat("x", 64), strings.Repeat("x", 65), strings.Repeat("x", 64) + "y", strings.Repeat("x", 1<<16), strings.Repeat("x", 1<<16) + "y"}
	for _, a := range l {
		for _, b := range l {
			two := objs(obj(secs(data("s", "1")), of(a, 0)), obj(secs(data("s", "2")), of(b, 0)))
			if a == b {
				checkTable(t, a+" twice", two, "1 0", api.Differ{Name: a, First: 0, Other: 1})
			} else {
				checkTable(t, a+" and "+b, two, "1 1")
			}
			// The names of sections count for what differs, and no others.
			two = objs(obj(secs(data(a, "1")), of("g", 0)), obj(secs(data(b, "1")), of("g", 0)))
			two[0].Name, two[1].Name = b, a
			if a == b {
				checkTable(t, "sections of the name "+a, two, "1 0")
			} else {
				checkTable(t, "sections of the names "+a+" and "+b, two, "1 0", api.Differ{Name: "g", First: 0, Other: 1})
			}
		}
	}
}

// P12.2: which copies differ, and in which order they are listed.
func TestDiffersTable(t *testing.T) {
	one, other := secs(data("a", "1"), data("b", "22")), secs(data("a", "1"), data("b", "23"))
	x := func(s []api.Section) api.Object { return obj(s, of("x", 0, 1)) }
	d := func(name string, first, second int) api.Differ {
		return api.Differ{Name: name, First: first, Other: second}
	}
	checkTable(t, "alike", objs(x(one), x(one), x(one)), "11 00 00")
	checkTable(t, "the second one", objs(x(one), x(other), x(one)), "11 00 00", d("x", 0, 1))
	checkTable(t, "the third one", objs(x(one), x(one), x(other)), "11 00 00", d("x", 0, 2))
	checkTable(t, "both", objs(x(one), x(other), x(other)), "11 00 00", d("x", 0, 1), d("x", 0, 2))
	checkTable(t, "the first one", objs(x(other), x(one), x(one)), "11 00 00", d("x", 0, 1), d("x", 0, 2))
	checkTable(t, "behind others", objs(obj(one), obj(other), x(one), obj(one), x(other)), "11 11 11 11 00", d("x", 2, 4))
	checkTable(t, "where nothing differs", objs(obj(one, of("x", 0)), obj(other, of("x", 0))), "11 01")
	checkTable(t, "by groups, not by names", objs(obj(one, of("z", 1), of("x", 1), of("y", 1)), obj(other, of("y", 1), of("z", 1), of("x", 1))), "11 10", d("y", 0, 1), d("z", 0, 1), d("x", 0, 1))
	checkTable(t, "by objects, not by names", objs(obj(one, of("x", 1), of("y", 1)), obj(other, of("y", 1)), obj(other, of("x", 1))), "11 10 10", d("y", 0, 1), d("x", 0, 2))
	checkTable(t, "with different first ones", objs(obj(one, of("y", 1)), obj(one, of("x", 1)), obj(other, of("x", 1), of("y", 1))), "11 11 10", d("x", 1, 2), d("y", 0, 2))
	checkTable(t, "some of the groups", objs(obj(one, of("x", 1), of("y", 0)), obj(other, of("x", 1), of("y", 0))), "11 00", d("x", 0, 1))
}

// P12.2: copies that are not alike in the number of their sections, also if the first ones are the same.
func TestDiffersNumber(t *testing.T) {
	four := secs(data("a", "1"), data("b", "2"), data("c", "3"), data("d", "4"))
	all := []int{0, 1, 2, 3}
	for i := range 5 {
		for j := range 5 {
			_, differs := check(t, objs(obj(four, of("x", all[:i]...)), obj(four, of("x", all[:j]...))))
			if (len(differs) == 0) != (i == j) {
				t.Errorf("%d and %d sections: %v", i, j, differs)
			}
			_, differs = check(t, objs(obj(four, of("x", all[i:]...)), obj(four, of("x", all[j:]...))))
			if (len(differs) == 0) != (i == j) {
				t.Errorf("%d and %d last sections: %v", 4-i, 4-j, differs)
			}
		}
	}
}

// P12.2: the sections are compared in the orders of the groups, wherever they are in the objects.
func TestDiffersOrder(t *testing.T) {
	a, b, c := data("a", "1"), data("b", "2"), data("c", "3")
	checkTable(t, "another order", objs(obj(secs(a, b), of("x", 0, 1)), obj(secs(a, b), of("x", 1, 0))), "11 00", api.Differ{Name: "x", First: 0, Other: 1})
	checkTable(t, "other places", objs(obj(secs(a, b), of("x", 0, 1)), obj(secs(c, a, c, b), of("x", 1, 3))), "11 1010")
	checkTable(t, "other places and another order", objs(obj(secs(a, b), of("x", 0, 1)), obj(secs(b, c, a), of("x", 2, 0))), "11 010")
	checkTable(t, "the last section", objs(obj(secs(a, b, c), of("x", 0, 1, 2)), obj(secs(a, b, a), of("x", 0, 1, 2))), "111 000", api.Differ{Name: "x", First: 0, Other: 1})
	checkTable(t, "the first section", objs(obj(secs(a, b, c), of("x", 0, 1, 2)), obj(secs(c, b, c), of("x", 0, 1, 2))), "111 000", api.Differ{Name: "x", First: 0, Other: 1})
	checkTable(t, "the same name and form at two places", objs(obj(secs(a, b, a), of("x", 0, 1, 2)), obj(secs(b, a), of("x", 1, 0, 1))), "111 00")
}

// P12.2: the example of the chapter.
func TestExample(t *testing.T) {
	two := obj(secs(data("a", "1"), data("b", "2")), of("g", 1))
	checkTable(t, "the same", objs(two, two), "11 10")
	other := obj(secs(data("a", "1"), data("b", "3")), of("g", 1))
	checkTable(t, "other bytes", objs(two, other), "11 10", api.Differ{Name: "g", First: 0, Other: 1})
}
