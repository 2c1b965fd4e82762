package group

import (
	"testing"

	"linchpin/api"
)

// everyGroup returns all groups with certain names and short lists of certain numbers.
func everyGroup(names []string, numbers []int) []api.Group {
	var l []api.Group
	for _, name := range names {
		l = append(l, of(name))
		for _, i := range numbers {
			l = append(l, of(name, i))
			for _, j := range numbers {
				l = append(l, of(name, i, j))
			}
		}
	}
	return l
}

// everyObject returns objects with certain sections and all lists of up to n of certain groups.
func everyObject(secs []api.Section, groups []api.Group, n int) []api.Object {
	l := objs(obj(secs))
	for begin := 0; n > 0; n-- {
		end := len(l)
		for _, o := range l[begin:end] {
			for _, g := range groups {
				l = append(l, obj(secs, append(o.Groups[:len(o.Groups):len(o.Groups)], g)...))
			}
		}
		begin = end
	}
	return l
}

// P12.1, P12.2: all pairs of objects with up to two groups each, of all short lists.
func TestEveryPair(t *testing.T) {
	groups := everyGroup([]string{"x", "y"}, []int{-1, 0, 1})
	first := everyObject(secs(data("a", "1"), data("b", "2")), groups, 2)
	second := everyObject(secs(data("b", "2"), data("a", "1")), everyGroup([]string{"x", "y"}, []int{0, 1, 2}), 1)
	for _, o := range first {
		check(t, objs(o))
		for _, p := range second {
			check(t, objs(o, p))
			check(t, objs(p, o))
		}
	}
}

// P12.1, P12.2: all lists of three objects with one group each, with different sections.
func TestEveryThree(t *testing.T) {
	groups := everyGroup([]string{"x", "y"}, []int{0, 1})
	first := everyObject(secs(data("a", "1"), data("b", "2")), groups, 1)
	second := everyObject(secs(data("a", "2"), data("b", "2")), groups, 1)
	third := everyObject(secs(data("b", "2")), groups, 1)
	for _, o := range first {
		for _, p := range second {
			for _, q := range third {
				check(t, objs(o, p, q))
				check(t, objs(q, o, p))
				check(t, objs(p, o, p))
			}
		}
	}
}

// P12.1, P12.2: all objects with three groups of one name or two.
func TestEveryGroup(t *testing.T) {
	groups := everyGroup([]string{"x", "y"}, []int{0, 1})
	for _, o := range everyObject(secs(data("a", "1"), data("a", "1"), data("c", "3")), groups, 3) {
		check(t, objs(o))
	}
}
