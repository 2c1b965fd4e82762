package room

import (
	"math"
	"math/big"
	"testing"

	"linchpin/api"
)

// fitOf is the definition of Fit for a right list, with exact numbers: the least place within each span, until one is found.
func fitOf(l []api.Span, size, align, from, until int) (int, bool) {
	if size < 1 || size > api.MaxAddr || align < 1 || align > api.MaxAddr {
		return 0, false
	}
	for _, s := range l {
		at, step := exact(max(0, from, s.At)), exact(align)
		at.Add(at, exact(align-1))
		at.Div(at, step)
		at.Mul(at, step)
		behind := new(big.Int).Add(at, exact(size))
		if behind.Cmp(exact(until)) <= 0 && behind.Cmp(exactEnd(s)) <= 0 {
			return int(at.Int64()), true
		}
	}
	return 0, false
}

// P4.4: places written out by hand.
func TestFitTable(t *testing.T) {
	l := spans(3, 7, 16, 24)
	whole := spans(0, api.MaxAddr)
	end := spans(api.MaxAddr-8, 8)
	const last, half = api.MaxAddr - 1, api.MaxAddr / 2
	for _, x := range []struct {
		l                        []api.Span
		size, align, from, until int
		want                     int
		ok                       bool
	}{
		{l, 8, 8, 0, 40, 16, true},
		{l, 8, 8, 17, 40, 24, true},
		{l, 8, 8, 0, 23, 0, false},
		{l, 8, 8, 0, 24, 16, true},
		{l, 7, 1, 0, 40, 3, true},    // all of the first span
		{l, 7, 1, 4, 40, 16, true},   // one address less of it
		{l, 7, 3, 0, 40, 3, true},    // a multiple of align at its beginning
		{l, 6, 4, 0, 40, 4, true},    // from a multiple of align to its end
		{l, 7, 4, 0, 40, 16, true},   // one address beyond its end
		{l, 5, 5, 0, 40, 5, true},    // not a power of 2
		{l, 6, 5, 0, 40, 20, true},   // only in the second span
		{l, 24, 16, 0, 40, 16, true}, // all of the second span
		{l, 24, 16, 0, 39, 0, false},
		{l, 25, 1, 0, 99, 0, false}, // more than any span has
		{l, 8, 8, 32, 40, 32, true}, // the last fitting multiple
		{l, 8, 8, 25, 40, 32, true},
		{l, 8, 8, 33, 40, 0, false},
		{l, 8, 8, 32, 39, 0, false},
		{l, 9, 8, 25, 99, 0, false},
		{l, 1, 1, 39, 40, 39, true},
		{l, 1, 1, 40, 99, 0, false},
		{l, 1, 1, 39, 39, 0, false},
		{l, 1, 1, 10, 99, 16, true}, // from a gap on
		{l, 1, 1, -9, 99, 3, true},
		{l, 1, 1, math.MinInt, math.MaxInt, 3, true},
		{l, 1, 1, math.MaxInt, math.MaxInt, 0, false},
		{l, 1, 1, math.MaxInt, math.MinInt, 0, false},
		{l, 1, 1, math.MinInt, math.MinInt, 0, false},
		{l, 1, 1, 0, math.MinInt, 0, false},
		{l, api.MaxAddr, 1, 0, math.MinInt, 0, false},
		{l, 1, 1, 20, 10, 0, false},
		{l, 1, 64, 0, 99, 0, false}, // no multiple of align at all
		{l, 1, 39, 0, 99, 39, true},
		{l, 2, 39, 0, 99, 0, false},
		{l, 0, 1, 0, 99, 0, false}, // sizes and alignments out of bounds
		{l, -1, 1, 0, 99, 0, false},
		{l, math.MinInt, 1, 0, 99, 0, false},
		{l, math.MaxInt, 1, 0, math.MaxInt, 0, false},
		{l, 1, 0, 0, 99, 0, false},
		{l, 1, -1, 0, 99, 0, false},
		{l, 1, math.MinInt, 0, 99, 0, false},
		{l, 1, math.MaxInt, 0, 99, 0, false},
		{nil, 1, 1, 0, 99, 0, false},
		{whole, 1, 1, 0, math.MaxInt, 0, true},
		{whole, 1, api.MaxAddr, math.MinInt, math.MaxInt, 0, true},
		{whole, 1, api.MaxAddr + 1, 0, math.MaxInt, 0, false},
		{whole, 1, api.MaxAddr, 1, math.MaxInt, 0, false},
		{whole, api.MaxAddr, api.MaxAddr, 0, api.MaxAddr, 0, true},
		{whole, api.MaxAddr, 1, 0, last, 0, false},
		{whole, api.MaxAddr, 1, 1, math.MaxInt, 0, false},
		{whole, api.MaxAddr + 1, 1, 0, math.MaxInt, 0, false},
		{whole, half, half, 1, math.MaxInt, half, true},
		{whole, half + 1, half, 1, math.MaxInt, 0, false},
		{whole, 1, half, half + 1, math.MaxInt, 0, false},
		{whole, 1, last, 1, math.MaxInt, last, true},
		{whole, 2, last, 1, math.MaxInt, 0, false},
		{whole, 1, 1, last, math.MaxInt, last, true},
		{whole, 1, 1, api.MaxAddr, math.MaxInt, 0, false},
		{whole, 1, 1, last, last, 0, false},
		{end, 8, 8, 0, math.MaxInt, api.MaxAddr - 8, true},
		{end, 8, 8, 0, api.MaxAddr - 1, 0, false},
		{end, 4, 4, api.MaxAddr - 7, math.MaxInt, api.MaxAddr - 4, true},
		{end, 5, 4, api.MaxAddr - 7, math.MaxInt, 0, false},
		{spans(5, 1), 1, 1, 0, 6, 5, true},
		{spans(0, 8), 8, 256, 0, 8, 0, true},
		{spans(1, 8), 8, 256, 0, 99, 0, false},
	} {
		if at, ok := Fit(x.l, x.size, x.align, x.from, x.until); at != x.want || ok != x.ok {
			t.Errorf("Fit of %v, size %d, align %d, from %d, until %d: %d, %v; want %d, %v", x.l, x.size, x.align, x.from, x.until, at, ok, x.want, x.ok)
		}
	}
}

// P4.4: every list of some addresses with all small arguments, against a search through these addresses.
func TestFitSearch(t *testing.T) {
	for _, g := range []grid{{0, 1, 7}, {api.MaxAddr - 7, 1, 7}} {
		aligns := []int{-1, 0, 1, 2, 3, 4, 5, 7, 8, api.MaxAddr - 6, api.MaxAddr - 3, api.MaxAddr - 1, api.MaxAddr, api.MaxAddr + 1}
		for _, set := range g.sets() {
			l := g.list(set)
			for size := -1; size <= g.cells+1; size++ {
				for _, align := range aligns {
					for from := g.base - 1; from <= g.base+g.cells+1; from++ {
						for until := g.base - 1; until <= g.base+g.cells+1; until++ {
							want, found := 0, false
							for c := 0; c < g.cells && !found && size >= 1 && align >= 1 && align <= api.MaxAddr; c++ {
								at := g.base + c
								if at%align == 0 && at >= from && at+size <= until && c+size <= g.cells && g.set(c, size)&^set == 0 {
									want, found = at, true
								}
							}
							if at, ok := Fit(l, size, align, from, until); at != want || ok != found {
								t.Fatalf("Fit of %v, size %d, align %d, from %d, until %d: %d, %v; want %d, %v", l, size, align, from, until, at, ok, want, found)
							}
						}
					}
				}
			}
		}
	}
}

// P4.4: far ints in all places, against the definition.
func TestFitFar(t *testing.T) {
	lists := [][]api.Span{
		nil, spans(0, api.MaxAddr), spans(1, api.MaxAddr-1), spans(0, 1), spans(0, api.MaxAddr-1), spans(2, 6, 9, api.MaxAddr-9),
		spans(0, 3, 5, 11, api.MaxAddr/2-1, 4, api.MaxAddr-8, 8), spans(api.MaxAddr-1, 1),
	}
	for _, l := range lists {
		for _, size := range far() {
			for _, align := range far() {
				for _, from := range far() {
					for _, until := range far() {
						want, found := fitOf(l, size, align, from, until)
						if at, ok := Fit(l, size, align, from, until); at != want || ok != found {
							t.Fatalf("Fit of %v, size %d, align %d, from %d, until %d: %d, %v; want %d, %v", l, size, align, from, until, at, ok, want, found)
						}
					}
				}
			}
		}
	}
}

// P4.4: what Fit returns keeps all conditions, and lists that are not right have no place.
func TestFitConditions(t *testing.T) {
	g := grid{1000, 1, 60}
	for _, set := range g.sets() {
		l := g.list(set)
		for size := 1; size <= 12; size++ {
			for align := 1; align <= 70; align++ {
				for from := 990; from <= 1065; from += 5 {
					at, ok := Fit(l, size, align, from, 1055)
					want, found := fitOf(l, size, align, from, 1055)
					if at != want || ok != found || ok && (at%align != 0 || at < from || at+size > 1055 || !Has(l, api.Span{At: at, Size: size})) {
						t.Fatalf("Fit of %v, size %d, align %d, from %d: %d, %v; want %d, %v", l, size, align, from, at, ok, want, found)
					}
				}
			}
		}
	}
	for _, l := range wrongLists() {
		for _, size := range far() {
			for _, from := range far() {
				if at, ok := Fit(l, size, 1, from, math.MaxInt); at != 0 || ok {
					t.Fatalf("Fit of %v, size %d, from %d: %d, %v", l, size, from, at, ok)
				}
			}
		}
	}
}
