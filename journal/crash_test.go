package journal

import (
	"slices"
	"strings"
	"testing"

	"linchpin/api"
	"linchpin/disk"
)

// spy is a disk of which it is known how many writes are pending.
type spy struct {
	*disk.Disk
	pending []int // the files of the pending writes
	calls   []int // for each call that can crash: how many writes are pending when it does
}

func (s *spy) count() { s.calls = append(s.calls, len(s.pending)) }

// settled forgets the pending writes of a file if a call succeeded.
func (s *spy) settled(f int, e api.Errno) api.Errno {
	if e == api.OK {
		s.pending = slices.DeleteFunc(s.pending, func(g int) bool { return g == f })
	}
	return e
}

func (s *spy) Write(f, at int, text string) api.Errno {
	e := s.Disk.Write(f, at, text)
	for i := range len(text) {
		if e == api.OK && (i == 0 || (at+i)%32 == 0) {
			s.pending = append(s.pending, f)
		}
	}
	s.count()
	return e
}

func (s *spy) Flush(f int) api.Errno {
	s.count()
	return s.settled(f, s.Disk.Flush(f))
}

func (s *spy) Cut(f, n int) api.Errno {
	s.count()
	return s.settled(f, s.Disk.Cut(f, n))
}

func (s *spy) Turn(f, g int) api.Errno {
	s.count()
	return s.settled(f, s.Disk.Turn(f, g))
}

// choices calls do with every list of what survives of n pending writes.
func choices(n int, do func(keep []int)) {
	keep := make([]int, n)
	for {
		do(slices.Clone(keep))
		i := slices.IndexFunc(keep, func(k int) bool { return k < 2 })
		if i < 0 {
			return
		}
		keep[i]++
		clear(keep[:i])
	}
}

// act is a call of a log; lost flushes are due before it.
type act struct {
	append  bool
	rewrite bool // neither of them: a flush
	rows    []string
	lose    int
}

// do makes the call.
func (a act) do(d *disk.Disk, l log) api.Errno {
	if a.lose > 0 {
		d.Lose(a.lose)
	}
	switch {
	case a.append:
		return l.Append(a.rows[0])
	case a.rewrite:
		return l.Rewrite(a.rows)
	}
	return l.Flush()
}

// notes tells what may be found after a crash.
type notes struct {
	rows  []string
	sure  []string
	maybe [][]string // those of the calls of Flush and Rewrite that did not return OK since
}

// note notes a call and what it returned.
func (n *notes) note(a act, e api.Errno) {
	next := slices.Clone(n.rows)
	if a.rewrite {
		next = a.rows
	}
	switch {
	case a.append && e == api.OK:
		n.rows = append(next, a.rows[0])
	case a.append:
	case e == api.OK:
		n.rows, n.sure, n.maybe = next, next, nil
	default:
		n.maybe = append(n.maybe, next)
	}
}

// allows reports whether rows may be found.
func (n *notes) allows(rows []string) bool {
	same := func(m []string) bool { return slices.Equal(m, rows) }
	return same(n.sure) || slices.ContainsFunc(n.maybe, same)
}

// found checks what is found after a crash.
func (n *notes) found(t *testing.T, d *disk.Disk, f int, what ...any) *Log {
	t.Helper()
	d.Start()
	l, e := Open(d, f)
	if e != api.OK {
		t.Fatal(what, "open:", e)
	}
	if !n.allows(l.All()) || l.Sure() != len(l.All()) {
		t.Fatalf("%v: %q, %d sure; want %q or one of %q", what, l.All(), l.Sure(), n.sure, n.maybe)
	}
	return l
}

// run makes calls on a log on a copy of a disk until the machine is down, and returns what may be found.
func run(t *testing.T, d *disk.Disk, f int, acts []act) notes {
	t.Helper()
	l, e := Open(d, f)
	must(t, e)
	n := notes{rows: l.All(), sure: l.All()}
	for _, a := range acts {
		if d.Down() {
			break
		}
		n.note(a, a.do(d, l))
	}
	return n
}

// crashEverywhere crashes at each call of the disk that the given calls make, and behind the last one, with every choice of what survives.
func crashEverywhere(t *testing.T, first *disk.Disk, f int, acts []act) {
	t.Helper()
	s := &spy{Disk: first.Copy()}
	m, e := openModel(s, f)
	must(t, e)
	for _, a := range acts {
		a.do(s.Disk, m)
	}
	for i, pending := range s.calls {
		choices(pending, func(keep []int) {
			d := first.Copy()
			d.Arm(i+1, keep)
			n := run(t, d, f, acts)
			if !d.Down() {
				t.Fatal(acts, "no crash at the call", i)
			}
			n.found(t, d, f, acts, "crash at the call", i, keep)
		})
	}
	d := first.Copy()
	n := run(t, d, f, acts)
	choices(len(s.pending), func(keep []int) {
		c := d.Copy()
		c.Crash(keep)
		n.found(t, c, f, acts, "crash", keep)
	})
}

// P7.7: every sequence of four calls, crashes everywhere.
func TestCrashEverywhere(t *testing.T) {
	acts := []act{
		{append: true, rows: []string{"a"}},
		{append: true, rows: []string{strings.Repeat("b", 30)}},
		{},
		{lose: 1},
		{rewrite: true, rows: []string{"x", strings.Repeat("y", 20)}},
		{rewrite: true, lose: 1, rows: []string{"z"}},
		{rewrite: true},
	}
	for _, first := range []*disk.Disk{disk.New(), used(t)} {
		var descend func(before []act)
		descend = func(before []act) {
			for _, a := range acts {
				now := append(slices.Clone(before), a)
				if len(now) < 4 {
					descend(now)
				} else {
					crashEverywhere(t, first, 3, now)
				}
			}
		}
		descend(nil)
	}
}

// P7.7: longer sequences of calls that were chosen by hand, crashes everywhere.
func TestCrashLater(t *testing.T) {
	row := func(s string) act { return act{append: true, rows: []string{s}} }
	rewrite := func(rows ...string) act { return act{rewrite: true, rows: rows} }
	for _, acts := range [][]act{
		{row("a"), {}, row("b"), {}, row("c")},
		{row("a"), {}, row("b"), {lose: 2}, row("c"), {}, {}},
		{row("a"), row("b"), {lose: 1}, rewrite("c"), row("d"), {}},
		{row("a"), {}, rewrite(), row("b"), {}},
		{row("aa"), {}, rewrite("b"), rewrite("c", "d"), row("e"), {}},
		{row("a"), {lose: 1}, {rewrite: true, lose: 1, rows: []string{"b"}}, row("c"), {}},
		{rewrite("aaaa", "bbbb"), rewrite("cc"), row("d"), row("e"), {}},
		{row(""), {}, row(""), {}, rewrite("", ""), row(""), {}},
	} {
		crashEverywhere(t, disk.New(), 6, acts)
		crashEverywhere(t, used(t), 3, acts)
	}
}

// randomAct returns a call of a log with random rows.
func randomAct(next func(int) int) act {
	a := act{append: true, rows: []string{randomRow(next)}}
	switch k := next(10); {
	case k < 4:
		a = act{}
	case k < 6:
		a = act{rewrite: true}
		for range next(4) {
			a.rows = append(a.rows, randomRow(next))
		}
	}
	if next(5) == 0 {
		a.lose = next(3)
	}
	return a
}

// P7.7: many crashes one after the other, each of a log that was opened after the one before.
func TestCrashAgain(t *testing.T) {
	next := random(77)
	for i := range 300 {
		d, f := disk.New(), i%7
		if i%2 == 0 {
			d, f = used(t), 3
		}
		for range 40 {
			d.Arm(next(20), randomKeep(next))
			var acts []act
			for range next(12) {
				acts = append(acts, randomAct(next))
			}
			n := run(t, d, f, acts)
			d.Crash(randomKeep(next))
			l := n.found(t, d, f, "round", i)
			d.Lose(0)
			must(t, l.Flush())
		}
	}
}

// P7.7: what is found when Flush or Rewrite is interrupted at each of its steps, written out by hand.
func TestInterrupted(t *testing.T) {
	old, both, other := []string{"p", "qq"}, []string{"p", "qq", "r"}, []string{"new"}
	for _, x := range []struct {
		n    int
		keep []int
		a    act
		want []string
	}{
		{1, nil, act{}, old},
		{1, []int{1}, act{}, old}, // the row without the header
		{2, nil, act{}, old},
		{2, []int{1}, act{}, both},
		{2, []int{2}, act{}, both}, // the header is no more than the half of a piece
		{2, []int{3}, act{}, old},
		{3, nil, act{}, old},
		{3, []int{1}, act{}, both},
		{3, []int{2}, act{}, both},
		{1, []int{1}, act{rewrite: true, rows: other}, old},
		{2, []int{1, 1, 1}, act{rewrite: true, rows: other}, old},
		{3, []int{1, 1, 1}, act{rewrite: true, rows: other}, old},
		{4, []int{1, 1, 1}, act{rewrite: true, rows: other}, old},
		{5, nil, act{rewrite: true, rows: other}, other},
	} {
		d := used(t)
		l := open(t, d, 3)
		must(t, l.Append("r"))
		d.Arm(x.n, x.keep)
		want := api.ErrDown
		if x.n == 5 {
			want = api.OK
		}
		refused(t, "interrupted", x.a.do(d, l), want)
		d.Crash(x.keep)
		d.Start()
		holds(t, open(t, d, 3), len(x.want), x.want...)
	}
}
