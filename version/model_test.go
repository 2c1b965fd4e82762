package version

import (
	"maps"
	"slices"
	"strconv"

	"linchpin/api"
)

// def is a declaration.
func def(name string, parents ...string) api.VersionDef {
	return api.VersionDef{Name: name, Parents: parents}
}

// list is a list of declarations.
func list(l ...api.VersionDef) []api.VersionDef { return l }

// copied returns a copy of declarations that shares no memory with them.
func copied(l []api.VersionDef) []api.VersionDef {
	var out []api.VersionDef
	for _, d := range l {
		out = append(out, def(d.Name, slices.Clone(d.Parents)...))
	}
	return out
}

// same reports whether two lists of declarations are equal.
func same(l, m []api.VersionDef) bool {
	return slices.EqualFunc(l, m, func(a, b api.VersionDef) bool {
		return a.Name == b.Name && slices.Equal(a.Parents, b.Parents)
	})
}

// random returns a function that returns numbers below a bound, the same ones each time.
func random(seed uint64) func(bound int) int {
	return func(bound int) int {
		seed = seed*6364136223846793005 + 1442695040888963407
		return int(seed>>33) % bound
	}
}

// mix puts the elements of a slice into a pseudo-random order.
func mix[T any](next func(int) int, l []T) {
	for i := range l {
		j := next(i + 1)
		l[i], l[j] = l[j], l[i]
	}
}

// randomList returns up to n declarations with names and parents of a short list; seldom a right one.
func randomList(next func(int) int, n int) []api.VersionDef {
	var l []api.VersionDef
	for range next(n + 1) {
		d := def("v" + strconv.Itoa(next(n)))
		for range next(4) {
			d.Parents = append(d.Parents, "v"+strconv.Itoa(next(n+2)))
		}
		l = append(l, d)
	}
	return l
}

// randomRight returns n declarations that are right.
func randomRight(next func(int) int, n int) []api.VersionDef {
	var names []string
	for i := range n {
		names = append(names, "v"+strconv.Itoa(i))
	}
	mix(next, names)
	var l []api.VersionDef
	few := 1 + next(6)
	for i, name := range names {
		d := def(name)
		for _, p := range names[:i] {
			if next(few) == 0 {
				d.Parents = append(d.Parents, p)
			}
		}
		mix(next, d.Parents)
		l = append(l, d)
	}
	mix(next, l)
	return l
}

// number returns a name that is greater the greater its number is.
func number(i int) string { return strconv.Itoa(10000000 + i) }

// chain returns n declarations, each of which has the next one as its parent. The last one has the parents that are given.
func chain(n int, last ...string) []api.VersionDef {
	l := make([]api.VersionDef, n)
	for i := range l {
		l[i] = def(number(i), number(i+1))
	}
	if n > 0 {
		l[n-1].Parents = last
	}
	return l
}

// numbers returns the names from one number to another one.
func numbers(from, to int) []string {
	var out []string
	for i := from; i <= to; i++ {
		out = append(out, number(i))
	}
	return out
}

// model is a list of declarations, whose definitions it follows word by word.
type model struct {
	l       []api.VersionDef
	strings []string // the names and parents in ascending order, and one that is none of them
	serves  map[[2]string]bool
}

// modelOf returns the model of a list.
func modelOf(l []api.VersionDef) model {
	all := map[string]bool{"?": true}
	for _, d := range l {
		all[d.Name] = true
		for _, p := range d.Parents {
			all[p] = true
		}
	}
	m := model{l: l, strings: slices.Sorted(maps.Keys(all)), serves: map[[2]string]bool{}}
	for _, s := range m.strings {
		m.serves[[2]string{s, s}] = true
		first := slices.IndexFunc(l, func(d api.VersionDef) bool { return d.Name == s })
		if first >= 0 {
			for _, p := range l[first].Parents {
				m.serves[[2]string{s, p}] = true
			}
		}
	}
	for _, k := range m.strings {
		for _, s := range m.strings {
			for _, t := range m.strings {
				if m.serves[[2]string{s, k}] && m.serves[[2]string{k, t}] {
					m.serves[[2]string{s, t}] = true
				}
			}
		}
	}
	return m
}

// right tells whether the list is right. A cycle is found as declarations that can be taken away one by one only as long as there is one without a parent that remains.
func (m model) right() bool {
	if len(m.l) > api.MaxSyms {
		return false
	}
	for i, d := range m.l {
		if !nameInModel(d.Name) {
			return false
		}
		for _, other := range m.l[:i] {
			if other.Name == d.Name {
				return false
			}
		}
		for j, p := range d.Parents {
			if slices.Contains(d.Parents[:j], p) || !m.declares(p) {
				return false
			}
		}
	}
	return len(m.inOrder()) == len(m.l)
}

// nameInModel tells whether a string is a name: it has only characters that are written out here.
func nameInModel(s string) bool {
	const characters = "!\"#$%&'()*+,-./0123456789:;<=>?@ABCDEFGHIJKLMNOPQRSTUVWXYZ[\\]^_`abcdefghijklmnopqrstuvwxyz{|}~"
	for i := range len(s) {
		if !slices.Contains([]byte(characters), s[i]) {
			return false
		}
	}
	return len(s) > 0 && len(s) <= 64
}

// declares tells whether a string is the name of a declaration.
func (m model) declares(s string) bool {
	return slices.ContainsFunc(m.l, func(d api.VersionDef) bool { return d.Name == s })
}

// line returns what a string serves.
func (m model) line(v string) []string {
	out := []string{v}
	for _, s := range m.strings {
		if s != v && m.serves[[2]string{v, s}] {
			out = append(out, s)
		}
	}
	return out
}

// order returns the order of the declarations.
func (m model) order() []string {
	if !m.right() {
		return nil
	}
	return m.inOrder()
}

// inOrder lists the declarations as long as there is one whose parents are all listed.
func (m model) inOrder() []string {
	var out []string
	for {
		var could []string
		for _, d := range m.l {
			waits := slices.ContainsFunc(d.Parents, func(p string) bool { return !slices.Contains(out, p) })
			if !waits && !slices.Contains(out, d.Name) {
				could = append(could, d.Name)
			}
		}
		if len(could) == 0 {
			return out
		}
		out = append(out, slices.Min(could))
	}
}
