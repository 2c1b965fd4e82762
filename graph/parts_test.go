package graph

import (
	"container/heap"
	"slices"
	"testing"

	"linchpin/api"
)

// The nodes of the next part are kept in a type with the methods of an interface.
var _ heap.Interface = &heads{}

// parts is the definition of Parts: the next part is searched for among all that are not listed yet.
func (m model) parts() [][]int {
	t := m.reached()
	part := func(v int) []int {
		var l []int
		for w := range m.n {
			if w == v || t[v][w] && t[w][v] {
				l = append(l, w)
			}
		}
		return l
	}
	listed := make([]bool, m.n)
	comes := func(l []int) bool {
		for _, v := range l {
			for w := range m.n {
				if m.arc[v][w] && !listed[w] && !slices.Contains(l, w) {
					return false
				}
			}
		}
		return true
	}
	var out [][]int
search:
	for {
		for v := range m.n {
			if l := part(v); !listed[v] && comes(l) {
				out = append(out, l)
				for _, w := range l {
					listed[w] = true
				}
				continue search
			}
		}
		return out
	}
}

// P5.2: results written out by hand.
func TestPartsTable(t *testing.T) {
	for _, x := range []struct {
		n    int
		l    []api.Arc
		want [][]int
	}{
		{0, nil, nil},
		{1, nil, [][]int{{0}}},
		{1, arcs(0, 0), [][]int{{0}}},
		{1, arcs(0, 0, 0, 0), [][]int{{0}}},
		{3, nil, [][]int{{0}, {1}, {2}}},
		{2, arcs(0, 1), [][]int{{1}, {0}}},
		{2, arcs(0, 1, 0, 1, 0, 1), [][]int{{1}, {0}}},
		{2, arcs(0, 0, 0, 1, 0, 1), [][]int{{1}, {0}}},
		{2, arcs(1, 0), [][]int{{0}, {1}}},
		{2, arcs(0, 1, 1, 0), [][]int{{0, 1}}},
		{2, arcs(0, 0, 1, 1), [][]int{{0}, {1}}},
		{3, arcs(0, 1, 1, 2), [][]int{{2}, {1}, {0}}},
		{3, arcs(2, 1, 1, 0), [][]int{{0}, {1}, {2}}},
		{3, arcs(0, 1, 1, 2, 2, 0), [][]int{{0, 1, 2}}},
		{3, arcs(2, 1, 1, 0, 0, 2), [][]int{{0, 1, 2}}},
		{3, arcs(0, 2), [][]int{{1}, {2}, {0}}},      // 1 and 2 could come, 1 is less
		{3, arcs(1, 2), [][]int{{0}, {2}, {1}}},      // 0 and 2 could come
		{4, arcs(1, 2), [][]int{{0}, {2}, {1}, {3}}}, // 1 comes as soon as 2 is listed, before 3
		{4, arcs(0, 3), [][]int{{1}, {2}, {3}, {0}}}, // 0 has to wait, although it is the least
		{4, arcs(0, 2), [][]int{{1}, {2}, {0}, {3}}}, // but no longer than for what it leads to
		{4, arcs(2, 0, 2, 1, 2, 3), [][]int{{0}, {1}, {3}, {2}}},
		{4, arcs(0, 2, 1, 2, 3, 2), [][]int{{2}, {0}, {1}, {3}}},
		{4, arcs(0, 1, 1, 0, 1, 2, 3, 2), [][]int{{2}, {0, 1}, {3}}},
		{4, arcs(0, 1, 0, 2, 1, 3, 2, 3), [][]int{{3}, {1}, {2}, {0}}},
		{5, arcs(4, 0, 0, 4, 1, 3, 2, 1), [][]int{{0, 4}, {3}, {1}, {2}}},
		{5, arcs(3, 1, 1, 3, 4, 2, 2, 4), [][]int{{0}, {1, 3}, {2, 4}}},
		{5, arcs(3, 1, 1, 3, 4, 2, 2, 4, 1, 4), [][]int{{0}, {2, 4}, {1, 3}}},
		{5, arcs(1, 4, 4, 1, 0, 3, 3, 0, 3, 1, 0, 4, 0, 1), [][]int{{1, 4}, {0, 3}, {2}}}, // several arcs between two parts
		{6, arcs(0, 5, 5, 0, 1, 4, 4, 1, 2, 3, 3, 2, 0, 1, 4, 3), [][]int{{2, 3}, {1, 4}, {0, 5}}},
		{6, arcs(5, 1, 1, 5, 2, 1, 0, 2, 3, 5), [][]int{{1, 5}, {2}, {0}, {3}, {4}}},
		{6, arcs(0, 1, 1, 2, 2, 0, 2, 3, 3, 4, 4, 5, 5, 3), [][]int{{3, 4, 5}, {0, 1, 2}}},
		{6, arcs(0, 1, 1, 2, 2, 0, 2, 3, 3, 4, 4, 5, 5, 3, 5, 0), [][]int{{0, 1, 2, 3, 4, 5}}},
		{7, arcs(0, 1, 1, 2, 2, 1, 2, 3, 3, 4, 4, 3, 4, 5, 6, 5), [][]int{{5}, {3, 4}, {1, 2}, {0}, {6}}},
		{1, arcs(0, 1), nil}, // not right
		{-1, nil, nil},
	} {
		if got := Parts(x.n, x.l); !same(got, x.want) {
			t.Errorf("%d nodes, %v: %v; want %v", x.n, x.l, got, x.want)
		}
	}
}

// P5.2: every graph of up to four nodes, against the definition.
func TestEverySmallGraph(t *testing.T) {
	for n := range 5 {
		for set := range uint64(1) << (n * n) {
			l := arcsOf(n, set)
			if got, want := Parts(n, l), modelOf(n, l).parts(); !same(got, want) {
				t.Fatalf("%d nodes, %v: %v; want %v", n, l, got, want)
			}
		}
	}
}

// P5.2: larger graphs, of few and of many parts, against the definition.
func TestLargerParts(t *testing.T) {
	next := random(2)
	for range 2500 {
		n := 1 + next(30)
		l := randomArcs(next, n, next(2*n))
		if got, want := Parts(n, l), modelOf(n, l).parts(); !same(got, want) {
			t.Fatalf("%d nodes, %v: %v; want %v", n, l, got, want)
		}
	}
}

// P5.6: every node is in exactly one part, which is that of the nodes from which it is reached and which it reaches; no arc leads to a later part.
func TestPartsProperties(t *testing.T) {
	next := random(3)
	for range 1500 {
		n := 1 + next(20)
		l := randomArcs(next, n, next(2*n))
		place := slices.Repeat([]int{-1}, n)
		for i, part := range Parts(n, l) {
			if len(part) == 0 || !slices.IsSorted(part) {
				t.Fatalf("%d nodes, %v: part %v", n, l, part)
			}
			for _, v := range part {
				if place[v] >= 0 {
					t.Fatalf("%d nodes, %v: %d is in two parts", n, l, v)
				}
				place[v] = i
			}
		}
		if slices.Contains(place, -1) {
			t.Fatalf("%d nodes, %v: places %v", n, l, place)
		}
		for v := range n {
			for w := range n {
				there := slices.Contains(Reach(n, l, []int{v}), w)
				back := slices.Contains(Reach(n, l, []int{w}), v)
				if (there && back) != (place[v] == place[w]) {
					t.Fatalf("%d nodes, %v: %d and %d are in the parts %d and %d", n, l, v, w, place[v], place[w])
				}
			}
		}
		for _, a := range l {
			if place[a.From] < place[a.To] {
				t.Fatalf("%d nodes, %v: %v leads from part %d to part %d", n, l, a, place[a.From], place[a.To])
			}
		}
	}
}

// wantParts checks the parts of a large graph.
func wantParts(t *testing.T, name string, n int, l []api.Arc, want [][]int) {
	t.Helper()
	if got := Parts(n, l); !same(got, want) {
		t.Errorf("%s: %d parts, the first of them %v; want %d", name, len(got), got[:min(3, len(got))], len(want))
	}
}

// singles returns parts of one node.
func singles(nodes ...int) [][]int {
	var out [][]int
	for _, v := range nodes {
		out = append(out, []int{v})
	}
	return out
}

// P5.2: as many nodes as there can be, in shapes whose parts are known.
func TestLargestParts(t *testing.T) {
	const n = maxNodes
	var up, rise, fall, out, in, loops, steps []api.Arc
	var nodes []int
	for v := range n {
		nodes = append(nodes, v)
		loops = append(loops, api.Arc{From: v, To: v})
		steps = append(steps, api.Arc{From: v, To: (v + 4) % n}) // four loops: the rests of a division by 4
		if v > 0 {
			rise = append(rise, api.Arc{From: v - 1, To: v})
			fall = append(fall, api.Arc{From: v, To: v - 1})
			out = append(out, api.Arc{From: 0, To: v})
			in = append(in, api.Arc{From: v, To: 0})
		}
	}
	up = append(rise[:len(rise):len(rise)], api.Arc{From: n - 1, To: 0})
	down := slices.Clone(nodes)
	slices.Reverse(down)
	wantParts(t, "no arcs", n, nil, singles(nodes...))
	wantParts(t, "loops of one node", n, loops, singles(nodes...))
	wantParts(t, "a way up", n, rise, singles(down...))
	wantParts(t, "a way down", n, fall, singles(nodes...))
	wantParts(t, "a loop", n, up, [][]int{nodes})
	wantParts(t, "both ways", n, append(rise, fall...), [][]int{nodes})
	wantParts(t, "arcs from one node", n, out, singles(append(nodes[1:n:n], 0)...))
	wantParts(t, "arcs to one node", n, in, singles(nodes...))
	var rests [4][]int
	for v := range n {
		rests[v%4] = append(rests[v%4], v)
	}
	wantParts(t, "four loops", n, steps, rests[:])
	steps = append(steps, arcs(0, n-3, 4, n-1, 1, n-1, 2, n-4)...) // from rest 0 to 1 and 3, from 1 to 3, and from 2 to 0
	wantParts(t, "four loops with arcs between them", n, steps, [][]int{rests[3], rests[1], rests[0], rests[2]})
}
