package graph

import (
	"math"
	"slices"
	"testing"

	"linchpin/api"
)

// arcs returns arcs from pairs of From and To.
func arcs(l ...int) []api.Arc {
	var out []api.Arc
	for i := 0; i < len(l); i += 2 {
		out = append(out, api.Arc{From: l[i], To: l[i+1]})
	}
	return out
}

// arcsOf returns the arcs of a small graph: bit n*v+w of set tells whether an arc leads from v to w.
func arcsOf(n int, set uint64) []api.Arc {
	var out []api.Arc
	for v := range n {
		for w := range n {
			if set>>(n*v+w)&1 == 1 {
				out = append(out, api.Arc{From: v, To: w})
			}
		}
	}
	return out
}

// far returns ints that are no node of a small graph, and no number of nodes.
func far() []int {
	return []int{math.MinInt, math.MinInt + 1, -1 << 32, -maxNodes, -2, -1, maxNodes + 1, 1 << 32, math.MaxInt - 1, math.MaxInt}
}

// random returns a function that returns numbers below a bound, the same ones each time.
func random(seed uint64) func(bound int) int {
	return func(bound int) int {
		seed = seed*6364136223846793005 + 1442695040888963407
		return int(seed>>33) % bound
	}
}

// randomArcs returns arcs between n nodes, some of them several times.
func randomArcs(next func(int) int, n, count int) []api.Arc {
	var out []api.Arc
	for range count {
		a := api.Arc{From: next(n), To: next(n)}
		out = append(out, a)
		if next(4) == 0 {
			out = append(out, out[next(len(out))])
		}
	}
	return out
}

// model is a graph as a table of its arcs.
type model struct {
	n   int
	arc [][]bool
}

// modelOf returns the model of a right graph.
func modelOf(n int, l []api.Arc) model {
	m := model{n, table(n)}
	for _, a := range l {
		m.arc[a.From][a.To] = true
	}
	return m
}

// table returns a table for pairs of nodes.
func table(n int) [][]bool {
	t := make([][]bool, n)
	for v := range t {
		t[v] = make([]bool, n)
	}
	return t
}

// reached tells for each two nodes whether a way with at least one arc leads from the first to the second.
func (m model) reached() [][]bool {
	t := table(m.n)
	for v := range t {
		copy(t[v], m.arc[v])
	}
	for k := range t {
		for v := range t {
			for w := range t {
				t[v][w] = t[v][w] || t[v][k] && t[k][w]
			}
		}
	}
	return t
}

// reach is the definition of Reach.
func (m model) reach(roots []int) []int {
	t := m.reached()
	var out []int
	for v := range m.n {
		for _, root := range roots {
			if isNode(m.n, root) && (root == v || t[root][v]) {
				out = append(out, v)
				break
			}
		}
	}
	return out
}

// extend returns the least list with count more nodes than begin that is a way and ends with to. It tries all of them, in their order.
func (m model) extend(begin []int, count, to int) []int {
	last := begin[len(begin)-1]
	if count == 0 {
		if last == to {
			return slices.Clone(begin)
		}
		return nil
	}
	for w := range m.n {
		if m.arc[last][w] {
			if way := m.extend(append(begin, w), count-1, to); way != nil {
				return way
			}
		}
	}
	return nil
}

// way is the definition of Way.
func (m model) way(roots []int, to int) []int {
	for count := range m.n {
		for v := range m.n {
			if slices.Contains(roots, v) {
				if way := m.extend([]int{v}, count, to); way != nil {
					return way
				}
			}
		}
	}
	return nil
}

// loop is the definition of Loop.
func (m model) loop() []int {
	t := m.reached()
	for v := range m.n {
		for count := 1; t[v][v]; count++ {
			if way := m.extend([]int{v}, count, v); way != nil {
				return way[:count]
			}
		}
	}
	return nil
}

// steps tells for each node how many arcs a way from it to a node has at least, or -1 if there is none.
func (m model) steps(to int) []int {
	far := make([]int, m.n)
	for v := range far {
		far[v] = -1
	}
	far[to] = 0
	for step := range m.n {
		for v := range far {
			for w := range far {
				if far[v] < 0 && far[w] == step && m.arc[v][w] {
					far[v] = step + 1
				}
			}
		}
	}
	return far
}

// wayBack is another definition of Way, for graphs with more ways than can be tried: from the nearest root on, always to the least node that is one arc nearer.
func (m model) wayBack(roots []int, to int) []int {
	far := m.steps(to)
	start := -1
	for v := range far {
		if slices.Contains(roots, v) && far[v] >= 0 && (start < 0 || far[v] < far[start]) {
			start = v
		}
	}
	if start < 0 {
		return nil
	}
	way := []int{start}
	for v := start; v != to; {
		for w := range far {
			if m.arc[v][w] && far[w] == far[v]-1 {
				v = w
				break
			}
		}
		way = append(way, v)
	}
	return way
}

// loopBack is another definition of Loop, by wayBack.
func (m model) loopBack() []int {
	t := m.reached()
	for v := range m.n {
		if !t[v][v] {
			continue
		}
		var second []int
		for w := range m.n {
			if m.arc[v][w] {
				second = append(second, w)
			}
		}
		way := m.wayBack(second, v)
		return append([]int{v}, way[:len(way)-1]...)
	}
	return nil
}

// P5.1: answers written out by hand.
func TestRightTable(t *testing.T) {
	for _, x := range []struct {
		n    int
		l    []api.Arc
		want bool
	}{
		{0, nil, true},
		{0, []api.Arc{}, true},
		{1, nil, true},
		{1, arcs(0, 0), true},
		{2, arcs(0, 1, 1, 0, 0, 1, 1, 1), true},
		{maxNodes - 1, nil, true},
		{maxNodes, nil, true},
		{maxNodes, arcs(maxNodes-1, 0, 0, maxNodes-1, maxNodes-1, maxNodes-1), true},
		{maxNodes + 1, nil, false},
		{maxNodes + 1, arcs(0, 1), false},
		{maxNodes - 1, arcs(maxNodes-1, 0), false},
		{maxNodes, arcs(0, maxNodes), false},
		{maxNodes, arcs(maxNodes, 0), false},
		{-1, nil, false},
		{-1, arcs(-1, -1), false},
		{-3, arcs(-2, -1), false},
		{math.MinInt, nil, false},
		{math.MaxInt, nil, false},
		{math.MaxInt, arcs(0, 0), false},
		{0, arcs(0, 0), false},
		{1, arcs(0, 1), false},
		{1, arcs(1, 0), false},
		{1, arcs(-1, 0), false},
		{1, arcs(0, -1), false},
		{3, arcs(0, 1, 1, 2, 2, 3), false},
		{3, arcs(0, 1, -1, 2, 2, 0), false},
		{3, arcs(3, 1, 1, 2, 2, 0), false},
		{4, arcs(0, 1, 1, 2, 2, 3), true},
	} {
		if got := Right(x.n, x.l); got != x.want {
			t.Errorf("%d nodes and %d arcs (%v): %v", x.n, len(x.l), x.l[:min(len(x.l), 5)], got)
		}
	}
}

// P5.1: the limit is 2^18 nodes.
func TestMostNodes(t *testing.T) {
	const most = 262144
	if !Right(most, arcs(most-1, most-1)) || Right(most+1, nil) || Right(most, arcs(most, 0)) || Right(most, arcs(0, most)) {
		t.Error("Right")
	}
	if got := Reach(most, arcs(0, most-1), []int{0}); !slices.Equal(got, []int{0, most - 1}) {
		t.Error(got)
	}
	if got := Loop(most, arcs(0, 1, most-1, most-1)); !slices.Equal(got, []int{most - 1}) {
		t.Error(got)
	}
}

// wantNothing checks that no function returns elements for a graph that is not right.
func wantNothing(t *testing.T, n int, l []api.Arc) {
	t.Helper()
	if Right(n, l) {
		t.Errorf("%d nodes, %v: right", n, l)
	}
	if got := Parts(n, l); len(got) != 0 {
		t.Errorf("%d nodes, %v: parts %v", n, l, got)
	}
	if got := Loop(n, l); len(got) != 0 {
		t.Errorf("%d nodes, %v: loop %v", n, l, got)
	}
	for _, roots := range [][]int{nil, {0}, {0, 1, 2}, {-1}, {n - 1}, {n}, {n, 0}} {
		if got := Reach(n, l, roots); len(got) != 0 {
			t.Errorf("%d nodes, %v: %v from %v", n, l, got, roots)
		}
		for _, to := range append(far(), 0, 1, 2, n-1, n) {
			if got := Way(n, l, roots, to); len(got) != 0 {
				t.Errorf("%d nodes, %v: %v from %v to %d", n, l, got, roots, to)
			}
		}
	}
}

// P5.1: numbers of nodes out of bounds, and an end that is no node in every place.
func TestNotRight(t *testing.T) {
	for _, n := range far() {
		for _, l := range [][]api.Arc{nil, arcs(0, 0), arcs(0, 1, 1, 0), arcs(n, n), arcs(n-1, n-1)} {
			wantNothing(t, n, l)
		}
	}
	for n := range 5 {
		for _, bad := range append(far(), n, n+1) {
			for place := range 4 {
				for _, wrong := range arcs(bad, 0, 0, bad, bad, bad) {
					var l []api.Arc
					for v := range n {
						l = append(l, api.Arc{From: v, To: (v + 1) % n}, api.Arc{From: v, To: v})
					}
					wantNothing(t, n, slices.Insert(l, place*len(l)/3, wrong))
				}
			}
		}
	}
}

// P5.3: results written out by hand.
func TestReachTable(t *testing.T) {
	l := arcs(0, 1, 1, 0, 1, 2, 3, 2)
	fork := arcs(0, 1, 0, 2, 1, 3, 2, 3, 3, 0, 4, 5)
	for _, x := range []struct {
		n           int
		l           []api.Arc
		roots, want []int
	}{
		{0, nil, nil, nil},
		{0, nil, []int{0}, nil},
		{0, nil, []int{-1, 0, 1}, nil},
		{1, nil, nil, nil},
		{1, nil, []int{0}, []int{0}},
		{1, arcs(0, 0), []int{0}, []int{0}},
		{1, arcs(0, 0), nil, nil},
		{3, nil, []int{2, 0}, []int{0, 2}},
		{3, nil, []int{2, 1, 0, 1, 2}, []int{0, 1, 2}},
		{4, l, []int{0}, []int{0, 1, 2}},
		{4, l, []int{1}, []int{0, 1, 2}},
		{4, l, []int{2}, []int{2}},
		{4, l, []int{3}, []int{2, 3}},
		{4, l, []int{3, 0}, []int{0, 1, 2, 3}},
		{4, l, []int{}, nil},
		{4, l, []int{4}, nil}, // the first number that is no node
		{4, l, []int{-1}, nil},
		{4, l, []int{math.MinInt, 3, math.MaxInt, 4, -1}, []int{2, 3}},
		{4, l, []int{3, 3, 3}, []int{2, 3}},
		{6, fork, []int{4, 4, 9, -1}, []int{4, 5}},
		{6, fork, []int{2}, []int{0, 1, 2, 3}},
		{6, fork, []int{5}, []int{5}},
		{6, fork, []int{5, 2}, []int{0, 1, 2, 3, 5}},
		{3, arcs(2, 1, 1, 0), []int{2}, []int{0, 1, 2}}, // found in descending order
		{3, arcs(0, 1, 0, 1, 0, 1), []int{0}, []int{0, 1}},
	} {
		if got := Reach(x.n, x.l, x.roots); !slices.Equal(got, x.want) {
			t.Errorf("%d nodes, %v, from %v: %v; want %v", x.n, x.l, x.roots, got, x.want)
		}
	}
}

// P5.3: results written out by hand.
func TestWayTable(t *testing.T) {
	fork := arcs(0, 2, 0, 1, 2, 3, 1, 3)
	cross := arcs(0, 3, 0, 4, 1, 2, 1, 5, 2, 6, 3, 6, 4, 6, 5, 6)
	for _, x := range []struct {
		n     int
		l     []api.Arc
		roots []int
		to    int
		want  []int
	}{
		{0, nil, nil, 0, nil},
		{0, nil, []int{0}, 0, nil},
		{1, nil, nil, 0, nil},
		{1, nil, []int{0}, 0, []int{0}},
		{1, nil, []int{0}, 1, nil},
		{1, nil, []int{1}, 1, nil},
		{1, nil, []int{-1}, -1, nil},
		{1, arcs(0, 0), []int{0}, 0, []int{0}},
		{2, arcs(0, 1), []int{0}, 1, []int{0, 1}},
		{2, arcs(0, 1), []int{1}, 0, nil},
		{2, arcs(0, 1, 0, 1), []int{0, 0}, 1, []int{0, 1}},
		{2, arcs(0, 0, 0, 1, 1, 1), []int{0}, 1, []int{0, 1}},
		{4, fork, []int{0}, 3, []int{0, 1, 3}},    // the lesser of two ways
		{4, fork, []int{0}, 2, []int{0, 2}},       // not through 1
		{4, fork, []int{0, 1}, 3, []int{1, 3}},    // fewer nodes from a later root
		{4, fork, []int{2, 1}, 3, []int{1, 3}},    // the lesser root
		{4, fork, []int{2, 0}, 3, []int{2, 3}},    // the nearer root
		{4, fork, []int{0, 1, 2, 3}, 3, []int{3}}, // a root that is the target
		{4, fork, []int{0, 3}, 3, []int{3}},       // also behind other roots
		{4, fork, []int{2, 2, 9, -1, 2}, 3, []int{2, 3}},
		{4, fork, []int{9, -1, 4}, 3, nil},
		{4, fork, nil, 3, nil},
		{4, fork, []int{3}, 0, nil},
		{4, fork, []int{0, 1, 2, 3}, 4, nil},
		{4, fork, []int{0, 1, 2, 3}, -1, nil},
		{7, cross, []int{1, 0}, 6, []int{0, 3, 6}}, // the first node that differs decides, not a later one
		{7, cross, []int{1}, 6, []int{1, 2, 6}},
		{7, cross, []int{5, 4}, 6, []int{4, 6}},
		{5, arcs(0, 4, 0, 3, 4, 1, 3, 2, 1, 2), []int{0}, 2, []int{0, 3, 2}},
		{6, arcs(0, 1, 0, 4, 4, 5, 1, 2, 2, 3, 3, 5), []int{0}, 5, []int{0, 4, 5}},                // fewer nodes go before lesser ones
		{8, arcs(0, 1, 0, 2, 1, 6, 2, 3, 6, 7, 3, 7), []int{0}, 7, []int{0, 1, 6, 7}},             // 1 before 2 decides, although 3 is less than 6
		{8, arcs(0, 2, 0, 1, 1, 6, 1, 5, 2, 3, 6, 7, 5, 7, 3, 7), []int{0}, 7, []int{0, 1, 5, 7}}, // and then 5 before 6
		{4, arcs(3, 2, 2, 1, 1, 0), []int{3}, 0, []int{3, 2, 1, 0}},
		{4, arcs(0, 1, 1, 2, 2, 0, 2, 3), []int{1}, 3, []int{1, 2, 3}},
		{4, arcs(0, 1, 1, 2, 2, 0, 2, 3), []int{1}, 0, []int{1, 2, 0}},
	} {
		if got := Way(x.n, x.l, x.roots, x.to); !slices.Equal(got, x.want) {
			t.Errorf("%d nodes, %v, from %v to %d: %v; want %v", x.n, x.l, x.roots, x.to, got, x.want)
		}
	}
}

// rootsOf returns the nodes of a set in descending order, the least of them twice, among numbers that are no nodes.
func rootsOf(n int, set uint64) []int {
	roots := []int{n, -1}
	for v := n - 1; v >= 0; v-- {
		if set>>v&1 == 1 {
			roots = append(roots, v)
		}
	}
	return append(roots, roots[len(roots)-1], math.MaxInt)
}

// P5.3: every graph of up to three nodes with all roots and targets, and every graph of four nodes with some, against the definitions.
func TestEverySmallWay(t *testing.T) {
	for n := range 5 {
		for set := range uint64(1) << (n * n) {
			l := arcsOf(n, set)
			m := modelOf(n, l)
			for some := range uint64(1) << n {
				if n == 4 && some != (set^set>>4^set>>8^set>>12)%16 {
					continue
				}
				roots := rootsOf(n, some)
				if got, want := Reach(n, l, roots), m.reach(roots); !slices.Equal(got, want) {
					t.Fatalf("%d nodes, %v, from %v: %v; want %v", n, l, roots, got, want)
				}
				for to := -1; to <= n; to++ {
					if got, want := Way(n, l, roots, to), m.way(roots, to); !slices.Equal(got, want) {
						t.Fatalf("%d nodes, %v, from %v to %d: %v; want %v", n, l, roots, to, got, want)
					}
				}
			}
		}
	}
}

// P5.3, P5.4: larger graphs, sparse and dense, against the other definitions.
func TestLargerGraphs(t *testing.T) {
	next := random(5)
	for range 1500 {
		n := 1 + next(24)
		l := randomArcs(next, n, next(4*n))
		m := modelOf(n, l)
		var roots []int
		for range next(5) {
			roots = append(roots, next(n+2)-1)
		}
		if got, want := Reach(n, l, roots), m.reach(roots); !slices.Equal(got, want) {
			t.Fatalf("%d nodes, %v, from %v: %v; want %v", n, l, roots, got, want)
		}
		for to := range n {
			if got, want := Way(n, l, roots, to), m.wayBack(roots, to); !slices.Equal(got, want) {
				t.Fatalf("%d nodes, %v, from %v to %d: %v; want %v", n, l, roots, to, got, want)
			}
		}
		if got, want := Loop(n, l), m.loopBack(); !slices.Equal(got, want) {
			t.Fatalf("%d nodes, %v: loop %v; want %v", n, l, got, want)
		}
	}
}

// P5.4: results written out by hand.
func TestLoopTable(t *testing.T) {
	for _, x := range []struct {
		n    int
		l    []api.Arc
		want []int
	}{
		{0, nil, nil},
		{1, nil, nil},
		{3, nil, nil},
		{1, arcs(0, 0), []int{0}},
		{1, arcs(0, 0, 0, 0), []int{0}},
		{2, arcs(0, 1), nil},
		{2, arcs(1, 0), nil},
		{2, arcs(0, 1, 0, 1), nil},
		{2, arcs(0, 1, 1, 0), []int{0, 1}},
		{3, arcs(2, 1, 1, 2), []int{1, 2}},
		{4, arcs(0, 1, 0, 2, 1, 3, 2, 3), nil},
		{3, arcs(2, 2, 0, 1), []int{2}},
		{3, arcs(2, 2, 1, 1), []int{1}},                                        // the least node
		{4, arcs(2, 2, 1, 3, 3, 1), []int{1, 3}},                               // also if its loop has more nodes
		{4, arcs(1, 1, 0, 3, 3, 2, 2, 0), []int{0, 3, 2}},                      // not in ascending order
		{3, arcs(1, 1, 0, 1, 1, 0), []int{0, 1}},                               // the loop of 1 alone is not through 0
		{3, arcs(0, 0, 0, 1, 1, 0), []int{0}},                                  // one node goes before several
		{3, arcs(0, 1, 1, 1, 1, 2, 2, 1), []int{1}},                            // 0 is before a loop, not on one
		{4, arcs(0, 1, 1, 2, 2, 3, 3, 2), []int{2, 3}},                         // neither is 1
		{4, arcs(3, 2, 2, 1, 1, 0, 0, 1), []int{0, 1}},                         // 3 leads to a loop
		{4, arcs(0, 1, 1, 2, 2, 0, 0, 3, 3, 0), []int{0, 3}},                   // fewer nodes go before lesser ones
		{5, arcs(0, 2, 0, 1, 1, 4, 2, 4, 4, 0), []int{0, 1, 4}},                // the lesser of two
		{5, arcs(0, 1, 0, 2, 1, 4, 2, 3, 4, 0, 3, 0), []int{0, 1, 4}},          // 1 before 2 decides, although 3 is less than 4
		{6, arcs(5, 1, 1, 4, 4, 5, 5, 2, 2, 1, 1, 3, 3, 5), []int{1, 3, 5}},    // the lesser of two, of three that share arcs
		{6, arcs(1, 2, 2, 3, 3, 1, 3, 4, 4, 5, 5, 3), []int{1, 2, 3}},          // two loops with a common node
		{6, arcs(4, 5, 5, 4, 3, 2, 2, 3, 0, 1), []int{2, 3}},                   // two loops apart
		{4, arcs(0, 1, 1, 2, 2, 3, 3, 0, 0, 1, 3, 0), []int{0, 1, 2, 3}},       // arcs several times
		{2, arcs(0, 1, 1, 0, 0, 1, 1, 0, 0, 0, 1, 1), []int{0}},                // all arcs, several times
		{4, arcs(0, 1, 1, 0, 0, 2, 2, 0, 0, 3, 3, 0), []int{0, 1}},             // three loops of two nodes
		{5, arcs(0, 4, 4, 3, 3, 4, 4, 0, 3, 3, 0, 2, 2, 1, 1, 2), []int{0, 4}}, // not the loops of 4
		{1, arcs(0, 0, 0, 1), nil},                                             // not right
		{3, arcs(0, 1, 1, 0, -1, 2), nil},                                      // not right
	} {
		if got := Loop(x.n, x.l); !slices.Equal(got, x.want) {
			t.Errorf("%d nodes, %v: %v; want %v", x.n, x.l, got, x.want)
		}
	}
}

// P5.4: every graph of up to four nodes, against the definition; and that what Loop returns is a loop.
func TestEverySmallLoop(t *testing.T) {
	for n := range 5 {
		for set := range uint64(1) << (n * n) {
			l := arcsOf(n, set)
			got := Loop(n, l)
			if want := modelOf(n, l).loop(); !slices.Equal(got, want) {
				t.Fatalf("%d nodes, %v: %v; want %v", n, l, got, want)
			}
			for i, v := range got {
				if w := got[(i+1)%len(got)]; set>>(n*v+w)&1 == 0 {
					t.Fatalf("%d nodes, %v: no arc from %d to %d of %v", n, l, v, w, got)
				}
			}
		}
	}
}

// P5.3, P5.4: ways and loops through as many nodes as there can be.
func TestLongWaysAndLoops(t *testing.T) {
	const n = maxNodes
	var l []api.Arc
	up := make([]int, n)
	for v := range n {
		up[v] = v
		if v > 0 {
			l = append(l, api.Arc{From: v - 1, To: v})
		}
	}
	if got := Way(n, l, []int{0}, n-1); !slices.Equal(got, up) {
		t.Errorf("a way up of %d nodes", len(got))
	}
	if got := Reach(n, l, []int{n / 2}); !slices.Equal(got, up[n/2:]) {
		t.Errorf("%d nodes reached", len(got))
	}
	if got := Loop(n, l); len(got) != 0 {
		t.Errorf("a loop of %d nodes", len(got))
	}
	l = append(l, api.Arc{From: n - 1, To: 0})
	if got := Loop(n, l); !slices.Equal(got, up) {
		t.Errorf("a loop up of %d nodes", len(got))
	}
	for i, a := range l {
		l[i] = api.Arc{From: a.To, To: a.From}
	}
	down := slices.Clone(up)
	slices.Reverse(down[1:])
	if got := Loop(n, l); !slices.Equal(got, down) {
		t.Errorf("a loop down of %d nodes", len(got))
	}
	if got := Way(n, l, []int{n - 1}, 0); len(got) != n || got[0] != n-1 || got[n-1] != 0 {
		t.Errorf("a way down of %d nodes", len(got))
	}
}

// answers returns the results of all functions for a graph.
func answers(n int, l []api.Arc, roots []int, to int) [][]int {
	out := [][]int{Reach(n, l, roots), Way(n, l, roots, to), Loop(n, l)}
	return append(out, Parts(n, l)...)
}

// same reports whether two lists of lists have the same elements.
func same(a, b [][]int) bool {
	return slices.EqualFunc(a, b, slices.Equal[[]int])
}

// P5.5: no argument is modified, nor what lies behind its elements.
func TestArgumentsStay(t *testing.T) {
	next := random(8)
	for range 300 {
		n := 1 + next(9)
		allArcs := append(randomArcs(next, n, 3*n), arcs(0, 0, -1, 7, n, n)...)
		var allRoots []int
		for range 8 {
			allRoots = append(allRoots, next(n+3)-1)
		}
		l, roots := allArcs[:len(allArcs)-3], allRoots[:next(8)]
		oldArcs, oldRoots := slices.Clone(allArcs), slices.Clone(allRoots)
		full := answers(n, l, roots, next(n))
		if !slices.Equal(allArcs, oldArcs) || !slices.Equal(allRoots, oldRoots) {
			t.Fatalf("%v and %v became %v and %v", oldArcs, oldRoots, allArcs, allRoots)
		}
		if !Right(n, l) || len(full) < 4 {
			t.Fatalf("%d nodes, %v: arcs behind the last one were read", n, l)
		}
	}
}

// P5.5: results share no memory with arguments, earlier results or each other, also not behind their elements.
func TestResultsAreNew(t *testing.T) {
	next := random(9)
	for range 300 {
		n := 1 + next(9)
		l := randomArcs(next, n, 3*n)
		roots := []int{next(n), next(n), next(n)}
		to := next(n)
		oldArcs, oldRoots := slices.Clone(l), slices.Clone(roots)
		got := answers(n, l, roots, to)
		var want [][]int
		for _, x := range got {
			want = append(want, slices.Clone(x))
		}
		for i := range got {
			whole := got[i][:cap(got[i])]
			for j := range whole {
				whole[j] = -7
			}
			for k := i + 1; k < len(got); k++ {
				if !slices.Equal(got[k], want[k]) {
					t.Fatalf("results %d and %d share memory", i, k)
				}
			}
		}
		if !slices.Equal(l, oldArcs) || !slices.Equal(roots, oldRoots) {
			t.Fatal("results share memory with arguments")
		}
		if again := answers(n, l, roots, to); !same(again, want) {
			t.Fatalf("%v, and again %v", want, again)
		}
		clear(l)
		clear(roots)
		for i := range got {
			for _, v := range got[i] {
				if v != -7 {
					t.Fatal("a result changed with an argument")
				}
			}
		}
	}
}

// P5.5: the list of the parts itself is new, too.
func TestPartsAreNew(t *testing.T) {
	l := arcs(0, 1, 1, 0, 1, 2, 3, 2)
	want := [][]int{{2}, {0, 1}, {3}}
	first := Parts(4, l)
	second := Parts(4, l)
	whole := first[:cap(first)]
	for i := range whole {
		whole[i] = []int{9}
	}
	if !same(second, want) || !same(Parts(4, l), want) {
		t.Errorf("%v, %v", second, Parts(4, l))
	}
}

// P5.7: the order of the arcs, and how often they occur, has no influence; nor has the order of the roots, and how often they occur (P5.3).
func TestOrderAndRepetition(t *testing.T) {
	next := random(11)
	for range 3000 {
		n := 1 + next(10)
		set := modelOf(n, randomArcs(next, n, next(3*n+1)))
		var l []api.Arc
		for v := range n {
			for w := range n {
				if set.arc[v][w] {
					l = append(l, api.Arc{From: v, To: w})
				}
			}
		}
		roots := []int{next(n), next(n), n}
		to := next(n)
		want := answers(n, l, roots, to)
		for range 4 {
			mixed := slices.Clone(l)
			for range next(2 * n) {
				if len(l) > 0 {
					mixed = append(mixed, l[next(len(l))])
				}
			}
			for i := range mixed {
				j := next(i + 1)
				mixed[i], mixed[j] = mixed[j], mixed[i]
			}
			if got := answers(n, mixed, []int{roots[1], -1, roots[0], roots[1]}, to); !same(got, want) {
				t.Fatalf("%d nodes, %v, from %v to %d: %v; want %v", n, mixed, roots, to, got, want)
			}
		}
	}
}
