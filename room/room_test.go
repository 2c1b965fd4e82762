package room

import (
	"math"
	"math/big"
	"math/bits"
	"slices"
	"testing"

	"linchpin/api"
)

// far returns the ints at which a span stops to be valid, and those at which sums and differences wrap around.
func far() []int {
	return []int{
		math.MinInt, math.MinInt + 1, math.MinInt + api.MaxAddr, -1 << 60, -api.MaxAddr - 1, -api.MaxAddr, -2, -1, 0, 1, 2, 3, 8,
		api.MaxAddr / 2, api.MaxAddr - 8, api.MaxAddr - 1, api.MaxAddr, api.MaxAddr + 1, 1 << 60, 1<<60 + 1, math.MaxInt - api.MaxAddr, math.MaxInt - 1, math.MaxInt,
	}
}

// spans returns spans from pairs of At and Size.
func spans(l ...int) []api.Span {
	var out []api.Span
	for i := 0; i < len(l); i += 2 {
		out = append(out, api.Span{At: l[i], Size: l[i+1]})
	}
	return out
}

// exact returns n as an exact number.
func exact(n int) *big.Int { return big.NewInt(int64(n)) }

// exactEnd is the definition of the end of a span.
func exactEnd(s api.Span) *big.Int { return new(big.Int).Add(exact(s.At), exact(s.Size)) }

// between reports whether low <= n <= high.
func between(n, low, high *big.Int) bool { return low.Cmp(n) <= 0 && n.Cmp(high) <= 0 }

// validOf is the definition of a valid span.
func validOf(s api.Span) bool {
	whole := exact(api.MaxAddr)
	return between(exact(s.At), exact(0), whole) && between(exact(s.Size), exact(0), new(big.Int).Sub(whole, exact(s.At)))
}

// rightOf is the definition of a right list.
func rightOf(l []api.Span) bool {
	for i, s := range l {
		if !validOf(s) || s.Size == 0 {
			return false
		}
		if i+1 < len(l) && exactEnd(s).Cmp(exact(l[i+1].At)) >= 0 {
			return false
		}
	}
	return true
}

// farSpans returns the spans made of far ints: valid ones, and others.
func farSpans() []api.Span {
	var l []api.Span
	for _, at := range far() {
		for _, size := range far() {
			l = append(l, api.Span{At: at, Size: size})
		}
	}
	return l
}

// wrongLists returns lists that are not right, each for one reason.
func wrongLists() [][]api.Span {
	return [][]api.Span{
		spans(0, 0), spans(5, 0), spans(api.MaxAddr, 0), spans(0, 5, 7, 0), spans(7, 0, 9, 1), // empty spans
		spans(0, 5, 5, 5), spans(0, 5, 7, 2, 9, 1), spans(0, api.MaxAddr-1, api.MaxAddr-1, 1), // they touch
		spans(0, 5, 4, 5), spans(0, 5, 0, 5), spans(0, 9, 2, 2), // they overlap
		spans(6, 5, 0, 5), spans(0, 1, 4, 1, 2, 1), spans(api.MaxAddr-1, 1, 0, 1), // they are out of order
		spans(-1, 5), spans(-5, 3), spans(5, -1), spans(0, 5, 9, -2), // they are not valid
		spans(api.MaxAddr, 1), spans(api.MaxAddr+1, 0), spans(api.MaxAddr-1, 2), spans(1, api.MaxAddr), spans(0, api.MaxAddr+1), spans(0, 5, 7, api.MaxAddr),
		spans(math.MinInt, 1), spans(math.MaxInt, 1), spans(math.MaxInt, math.MaxInt), spans(math.MinInt, math.MinInt),
		spans(1, math.MaxInt), spans(1, math.MinInt), spans(0, math.MinInt), spans(math.MinInt, math.MaxInt), spans(0, 5, math.MaxInt, math.MinInt),
	}
}

// grid divides addresses into cells; the bits of a number tell which cells a set contains.
type grid struct{ base, step, cells int }

// grids returns grids at the least and at the greatest addresses, in between, and one over all addresses.
func grids() []grid {
	return []grid{{0, 1, 9}, {api.MaxAddr - 9, 1, 9}, {api.MaxAddr/2 - 4, 1, 9}, {0, api.MaxAddr / 8, 8}}
}

// list is the definition of the right list of a set.
func (g grid) list(set uint64) []api.Span {
	var l []api.Span
	for c := range g.cells {
		if set>>c&1 == 0 {
			continue
		}
		if c > 0 && set>>(c-1)&1 == 1 {
			l[len(l)-1].Size += g.step
			continue
		}
		l = append(l, api.Span{At: g.base + c*g.step, Size: g.step})
	}
	return l
}

// span returns the span of some cells.
func (g grid) span(cell, count int) api.Span {
	return api.Span{At: g.base + cell*g.step, Size: count * g.step}
}

// set returns the set of some cells of the grid.
func (g grid) set(cell, count int) uint64 {
	set := uint64(0)
	for c := cell; c < cell+count; c++ {
		if c >= 0 && c < g.cells {
			set |= 1 << c
		}
	}
	return set
}

// each calls f for all spans of cells of the grid, and for those that begin or end one cell beyond it or that have less than no cells.
func (g grid) each(f func(cell, count int)) {
	for cell := -1; cell <= g.cells+1; cell++ {
		for count := -1; count <= g.cells-cell+1; count++ {
			f(cell, count)
		}
	}
}

// sets returns all sets of cells of the grid, or some of them if there are too many.
func (g grid) sets() []uint64 {
	var l []uint64
	if g.cells < 10 {
		for set := range uint64(1) << g.cells {
			l = append(l, set)
		}
		return l
	}
	state := uint64(g.cells)
	for i := range 30 {
		state = state*6364136223846793005 + 1442695040888963407
		set := bits.RotateLeft64(state, 32)
		if i%3 == 1 { // long spans
			set |= set<<1 | set<<2
		}
		if i%3 == 2 { // long gaps
			set &= set >> 1
		}
		l = append(l, set&(1<<g.cells-1))
	}
	return l
}

// P4.1: answers written out by hand.
func TestRightTable(t *testing.T) {
	for _, x := range []struct {
		l     []api.Span
		total int
	}{
		{nil, 0},
		{[]api.Span{}, 0},
		{spans(0, 1), 1},
		{spans(7, 5), 5},
		{spans(0, 5, 6, 5), 10},
		{spans(0, 5, 6, 5, 100, 1, 102, 3), 14},
		{spans(0, api.MaxAddr), api.MaxAddr},
		{spans(1, api.MaxAddr-1), api.MaxAddr - 1},
		{spans(api.MaxAddr-1, 1), 1},
		{spans(0, 1, 2, api.MaxAddr-2), api.MaxAddr - 1},
		{spans(0, api.MaxAddr-2, api.MaxAddr-1, 1), api.MaxAddr - 1},
	} {
		if !Right(x.l) || Total(x.l) != x.total {
			t.Errorf("%v: %v, %d; want %d", x.l, Right(x.l), Total(x.l), x.total)
		}
	}
	for _, l := range wrongLists() {
		if Right(l) || Total(l) != 0 {
			t.Errorf("%v: %v, %d", l, Right(l), Total(l))
		}
	}
}

// P4.1: all lists of up to two spans of far ints, and of three small ones, against the definition.
func TestRightEveryList(t *testing.T) {
	checkList := func(l ...api.Span) {
		want, total := rightOf(l), 0
		if want {
			for _, s := range l {
				total += s.Size
			}
		}
		if Right(l) != want || Total(l) != total {
			t.Fatalf("%v: %v, %d; want %v, %d", l, Right(l), Total(l), want, total)
		}
	}
	far := farSpans()
	for _, s := range far {
		checkList(s)
	}
	for i, s := range far {
		for j, next := range far {
			if (i+j)%5 == 0 || validOf(s) && validOf(next) {
				checkList(s, next)
			}
		}
	}
	var small []api.Span
	for at := -1; at < 7; at++ {
		small = append(small, spans(at, -1, at, 0, at, 1, at, 2, at, 3)...)
	}
	for _, s := range small {
		for _, next := range small {
			for _, last := range small {
				checkList(s, next, last)
			}
		}
	}
}

// P4.1: right lists of many spans.
func TestTotal(t *testing.T) {
	for _, g := range append(grids(), grid{0, 1, 60}, grid{api.MaxAddr - 60*7, 7, 60}) {
		for _, set := range g.sets() {
			l := g.list(set)
			if want := bits.OnesCount64(set) * g.step; !Right(l) || Total(l) != want {
				t.Fatalf("%v: %v, %d; want %d", l, Right(l), Total(l), want)
			}
		}
	}
}

// P4.2: results written out by hand.
func TestAddAndCutTable(t *testing.T) {
	l := spans(0, 10, 20, 10, 40, 10)
	whole := spans(0, api.MaxAddr)
	last := api.MaxAddr - 1
	for _, x := range []struct {
		l        []api.Span
		at, size int
		add, cut []api.Span
	}{
		{nil, 5, 3, spans(5, 3), nil},
		{nil, 0, 0, nil, nil},
		{nil, 0, api.MaxAddr, whole, nil},
		{nil, last, 1, spans(last, 1), nil},
		{nil, api.MaxAddr, 0, nil, nil},
		{spans(0, 10, 20, 10), 10, 10, spans(0, 30), spans(0, 10, 20, 10)},
		{spans(0, 30), 10, 10, spans(0, 30), spans(0, 10, 20, 10)},
		{l, 15, 0, l, l},                                                      // empty, in a gap
		{l, 25, 0, l, l},                                                      // empty, within a span
		{l, 20, 0, l, l},                                                      // empty, at the beginning of a span
		{l, 30, 0, l, l},                                                      // empty, at the end of a span
		{l, 12, 3, spans(0, 10, 12, 3, 20, 10, 40, 10), l},                    // touches none
		{l, 10, 3, spans(0, 13, 20, 10, 40, 10), l},                           // behind one
		{l, 17, 3, spans(0, 10, 17, 13, 40, 10), l},                           // before one
		{l, 11, 8, spans(0, 10, 11, 8, 20, 10, 40, 10), l},                    // a gap of one address on both sides
		{l, 30, 10, spans(0, 10, 20, 30), l},                                  // between two
		{l, 50, 1, spans(0, 10, 20, 10, 40, 11), l},                           // behind the last one
		{l, 51, 1, spans(0, 10, 20, 10, 40, 10, 51, 1), l},                    // beyond the last one
		{l, 20, 10, l, spans(0, 10, 40, 10)},                                  // all of one
		{l, 22, 3, l, spans(0, 10, 20, 2, 25, 5, 40, 10)},                     // within one
		{l, 20, 1, l, spans(0, 10, 21, 9, 40, 10)},                            // the first address of one
		{l, 29, 1, l, spans(0, 10, 20, 9, 40, 10)},                            // the last address of one
		{l, 19, 2, spans(0, 10, 19, 11, 40, 10), spans(0, 10, 21, 9, 40, 10)}, // overlaps the beginning of one
		{l, 29, 2, spans(0, 10, 20, 11, 40, 10), spans(0, 10, 20, 9, 40, 10)}, // overlaps the end of one
		{l, 19, 12, spans(0, 10, 19, 12, 40, 10), spans(0, 10, 40, 10)},       // more than one
		{l, 9, 12, spans(0, 30, 40, 10), spans(0, 9, 21, 9, 40, 10)},          // overlaps two
		{l, 5, 40, spans(0, 50), spans(0, 5, 45, 5)},                          // overlaps two, and all of a third one
		{l, 0, 50, spans(0, 50), nil},
		{l, 0, 45, spans(0, 50), spans(45, 5)},
		{l, 5, 60, spans(0, 65), spans(0, 5)},
		{l, 0, api.MaxAddr, whole, nil},
		{l, 49, api.MaxAddr - 49, spans(0, 10, 20, 10, 40, api.MaxAddr-40), spans(0, 10, 20, 10, 40, 9)},
		{l, last, 1, spans(0, 10, 20, 10, 40, 10, last, 1), l},
		{l, api.MaxAddr, 0, l, l},
		{whole, 0, api.MaxAddr, whole, nil},
		{whole, 0, 1, whole, spans(1, api.MaxAddr-1)},
		{whole, last, 1, whole, spans(0, last)},
		{whole, 1, api.MaxAddr - 2, whole, spans(0, 1, last, 1)},
		{spans(last, 1), last - 1, 1, spans(last-1, 2), spans(last, 1)},
		{spans(last, 1), last - 2, 1, spans(last-2, 1, last, 1), spans(last, 1)},
		{spans(5, last-5), last, 1, spans(5, api.MaxAddr-5), spans(5, last-5)},
	} {
		s := api.Span{At: x.at, Size: x.size}
		if got := Add(x.l, s); !slices.Equal(got, x.add) {
			t.Errorf("Add of %v and %v: %v; want %v", x.l, s, got, x.add)
		}
		if got := Cut(x.l, s); !slices.Equal(got, x.cut) {
			t.Errorf("Cut of %v and %v: %v; want %v", x.l, s, got, x.cut)
		}
	}
}

// P4.3: answers written out by hand.
func TestHasAndMeetsTable(t *testing.T) {
	l := spans(0, 10, 20, 10, 40, 10)
	whole := spans(0, api.MaxAddr)
	last := api.MaxAddr - 1
	for _, x := range []struct {
		l          []api.Span
		at, size   int
		has, meets bool
	}{
		{nil, 0, 0, true, false}, {nil, 0, 1, false, false}, {nil, api.MaxAddr, 0, true, false}, {nil, 0, api.MaxAddr, false, false},
		{spans(0, 10, 20, 10), 5, 20, false, true},
		{l, 0, 0, true, false}, {l, 10, 0, true, false}, {l, 15, 0, true, false}, {l, 20, 0, true, false}, {l, 25, 0, true, false}, {l, 60, 0, true, false}, {l, api.MaxAddr, 0, true, false},
		{l, 0, 10, true, true}, {l, 0, 11, false, true}, {l, 20, 10, true, true}, {l, 21, 8, true, true}, {l, 20, 1, true, true}, {l, 29, 1, true, true}, {l, 40, 10, true, true}, {l, 49, 1, true, true},
		{l, 19, 1, false, false}, {l, 19, 2, false, true}, {l, 19, 11, false, true}, {l, 20, 11, false, true}, {l, 29, 2, false, true}, {l, 30, 1, false, false}, {l, 19, 12, false, true},
		{l, 10, 10, false, false}, {l, 9, 11, false, true}, {l, 10, 11, false, true}, {l, 9, 12, false, true}, {l, 12, 3, false, false},
		{l, 0, 50, false, true}, {l, 50, 1, false, false}, {l, 49, 2, false, true}, {l, 0, api.MaxAddr, false, true}, {l, 50, api.MaxAddr - 50, false, false},
		{whole, 0, api.MaxAddr, true, true}, {whole, last, 1, true, true}, {whole, 0, 1, true, true}, {whole, api.MaxAddr, 0, true, false},
		{spans(last, 1), last, 1, true, true}, {spans(last, 1), last - 1, 1, false, false}, {spans(last, 1), last - 1, 2, false, true}, {spans(last, 1), 0, last, false, false},
	} {
		s := api.Span{At: x.at, Size: x.size}
		if has, meets := Has(x.l, s), Meets(x.l, s); has != x.has || meets != x.meets {
			t.Errorf("%v and %v: has %v, meets %v; want %v, %v", x.l, s, has, meets, x.has, x.meets)
		}
	}
}

// P4.2, P4.3: every span of the grids with every list of the small ones, and with lists of many spans, against the definitions. What lies beyond a grid at the least or at the greatest addresses is not valid.
func TestEverySpan(t *testing.T) {
	for _, g := range append(grids(), grid{0, 1, 50}, grid{api.MaxAddr - 50*3, 3, 50}) {
		for _, old := range g.sets() {
			l := g.list(old)
			g.each(func(cell, count int) {
				s, set := g.span(cell, count), g.set(cell, count)
				valid := validOf(s)
				if valid && bits.OnesCount64(set) != count {
					return // beyond a grid that ends before the addresses do
				}
				add, cut := l, l
				if valid {
					add, cut = g.list(old|set), g.list(old&^set)
				}
				if got := Add(l, s); !slices.Equal(got, add) || !Right(got) {
					t.Fatalf("Add of %v and %v: %v; want %v", l, s, got, add)
				}
				if got := Cut(l, s); !slices.Equal(got, cut) || !Right(got) {
					t.Fatalf("Cut of %v and %v: %v; want %v", l, s, got, cut)
				}
				has, meets := valid && set&^old == 0, valid && set&old != 0
				if Has(l, s) != has || Meets(l, s) != meets {
					t.Fatalf("%v and %v: has %v, meets %v; want %v, %v", l, s, Has(l, s), Meets(l, s), has, meets)
				}
			})
		}
	}
}

// P4.2, P4.3: spans that are not valid, and lists that are not right.
func TestWrongArguments(t *testing.T) {
	same := func(l []api.Span, s api.Span) {
		if add, cut := Add(l, s), Cut(l, s); !slices.Equal(add, l) || !slices.Equal(cut, l) {
			t.Errorf("%v and %v: added %v, cut %v", l, s, add, cut)
		}
		if Has(l, s) || Meets(l, s) {
			t.Errorf("%v and %v: has %v, meets %v", l, s, Has(l, s), Meets(l, s))
		}
	}
	for _, s := range farSpans() {
		if !validOf(s) {
			for _, l := range [][]api.Span{nil, spans(0, 10), spans(5, 5), spans(0, 10, 20, 10, 40, 10), spans(0, api.MaxAddr), spans(0, 5, api.MaxAddr-5, 5)} {
				same(l, s)
			}
		}
		for _, l := range wrongLists() {
			same(l, s)
		}
	}
	for _, l := range wrongLists() {
		for _, s := range l {
			same(l, s)
		}
		grid{0, 1, 12}.each(func(cell, count int) {
			same(l, api.Span{At: cell, Size: count})
		})
	}
}

// P4.5: no argument is modified, nor what lies behind its elements; no result shares memory with an argument, or with another result.
func TestMemory(t *testing.T) {
	junk := api.Span{At: 77, Size: 88}
	calls := []func([]api.Span, api.Span) []api.Span{
		Add,
		Cut,
		func(l []api.Span, s api.Span) []api.Span {
			Right(l)
			Total(l)
			Has(l, s)
			Meets(l, s)
			Fit(l, max(s.Size, 1), 1, 0, api.MaxAddr)
			return nil
		},
	}
	check := func(want []api.Span, s api.Span) {
		held := slices.Concat([]api.Span{junk}, want, []api.Span{junk, junk, junk})
		l := held[1 : 1+len(want)]
		for i, call := range calls {
			first, second := call(l, s), call(l, s)
			kept := slices.Clone(second)
			if !slices.Equal(l, want) || held[0] != junk || slices.ContainsFunc(held[1+len(want):], func(x api.Span) bool { return x != junk }) {
				t.Fatalf("call %d of %v and %v left %v", i, want, s, held)
			}
			first = first[:cap(first)]
			for k := range first {
				first[k] = api.Span{At: -1, Size: -1}
			}
			if !slices.Equal(l, want) || held[0] != junk || held[1+len(want)] != junk || !slices.Equal(second, kept) {
				t.Fatalf("call %d of %v and %v: a result shares memory", i, want, s)
			}
			for k := range held {
				held[k] = api.Span{At: -1, Size: -1}
			}
			if !slices.Equal(second, kept) {
				t.Fatalf("call %d of %v and %v: a result shares memory with the list", i, want, s)
			}
			copy(held, slices.Concat([]api.Span{junk}, want, []api.Span{junk, junk, junk}))
		}
	}
	g := grid{0, 1, 7}
	for _, set := range g.sets() {
		g.each(func(cell, count int) { check(g.list(set), g.span(cell, count)) })
	}
	for _, l := range wrongLists() {
		g.each(func(cell, count int) { check(l, g.span(cell, count)) })
	}
}

// P4.6: the order of additions, or of cuts, does not matter, and repeating them changes nothing.
func TestOrderAndRepetition(t *testing.T) {
	var all []api.Span
	g := grid{0, 1, 6}
	g.each(func(cell, count int) { all = append(all, g.span(cell, count)) })
	for name, change := range map[string]func([]api.Span, api.Span) []api.Span{"Add": Add, "Cut": Cut} {
		for _, set := range g.sets() {
			l := g.list(set)
			for _, s := range all {
				once := change(l, s)
				if twice := change(once, s); !slices.Equal(twice, once) {
					t.Fatalf("%s of %v and %v: %v, and again: %v", name, l, s, once, twice)
				}
				for _, u := range all {
					if a, b := change(once, u), change(change(l, u), s); !slices.Equal(a, b) || !slices.Equal(change(a, s), a) {
						t.Fatalf("%s of %v, %v and %v: %v, in the other order %v, again %v", name, l, s, u, a, b, change(a, s))
					}
				}
			}
		}
	}
}

// P4.6: a list comes from its addresses in any order, and cutting all of them leaves nothing.
func TestOneByOne(t *testing.T) {
	for _, g := range append(grids(), grid{api.MaxAddr - 60, 1, 60}) {
		for _, set := range g.sets() {
			want := g.list(set)
			var l []api.Span
			for i := range 7 * g.cells { // each cell several times, in a mixed order
				if c := i * 11 % g.cells; set>>c&1 == 1 {
					l = Add(l, g.span(c, 1))
				}
			}
			if !slices.Equal(l, want) {
				t.Fatalf("added one by one: %v; want %v", l, want)
			}
			for i := range 7 * g.cells {
				if c := i * 13 % g.cells; set>>c&1 == 1 {
					l = Cut(l, g.span(c, 1))
				}
			}
			if len(l) != 0 {
				t.Fatalf("cut one by one: %v left of %v", l, want)
			}
		}
	}
}

// P4.2, P4.6: Add is the union and Cut the difference of sets, told by Meets and Has for every single address and by Total.
func TestUnionAndDifference(t *testing.T) {
	g := grid{0, 1, 8}
	for _, old := range g.sets() {
		l := g.list(old)
		for _, other := range g.sets() {
			sum, rest := l, l
			for _, s := range g.list(other) {
				sum, rest = Add(sum, s), Cut(rest, s)
			}
			for c := range g.cells {
				s, in, out := g.span(c, 1), (old|other)>>c&1 == 1, (old&^other)>>c&1 == 1
				if Meets(sum, s) != in || Has(sum, s) != in || Meets(rest, s) != out || Has(rest, s) != out {
					t.Fatalf("%v with %v: %v, without: %v", l, g.list(other), sum, rest)
				}
			}
			if Total(sum) != bits.OnesCount64(old|other) || Total(rest) != bits.OnesCount64(old&^other) {
				t.Fatalf("%v with %v: %v, without: %v", l, g.list(other), sum, rest)
			}
		}
	}
}
