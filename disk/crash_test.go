package disk

import (
	"math"
	"slices"
	"strconv"
	"strings"
	"testing"

	"linchpin/api"
)

// P6.3: the examples of the chapter.
func TestExamples(t *testing.T) {
	d := New()
	must(t, d.Write(0, 0, "abc"))
	must(t, d.Flush(0))
	must(t, d.Write(0, 1, "XY"))
	must(t, d.Write(0, 5, "hi"))
	left(t, d, []int{0, 1}, 0, "abc\x00\x00hi")
	left(t, d, []int{1}, 0, "aXY")
	d = New()
	must(t, d.Write(0, 30, "abcd"))
	left(t, d, []int{0, 1}, 0, zeros(32)+"cd")
	d = New()
	must(t, d.Write(0, 0, strings.Repeat("x", 20)))
	left(t, d, []int{2}, 0, strings.Repeat("x", 16))
}

// P6.3: results written out by hand. Pending: XY at 2 of file 0, 20 bytes of file 7, 01 at 30 and 23 at 32 of file 0.
func TestCrashTable(t *testing.T) {
	d := New()
	must(t, d.Write(0, 0, "abcdef"))
	must(t, d.Flush(0))
	must(t, d.Write(0, 2, "XY"))
	must(t, d.Write(7, 0, letters(20)))
	must(t, d.Write(0, 30, "0123"))
	low, high := "abcdef"+zeros(24)+"01", "abcdef"+zeros(26)+"23"
	for _, x := range []struct {
		keep       []int
		zero, last string
	}{
		{nil, "abcdef", ""},
		{[]int{}, "abcdef", ""},
		{[]int{0, 0, 0, 0}, "abcdef", ""},
		{[]int{1}, "abXYef", ""},
		{[]int{2}, "abXYef", ""}, // fewer than 16 bytes
		{[]int{0, 1}, "abcdef", letters(20)},
		{[]int{0, 2}, "abcdef", letters(16)},
		{[]int{0, 0, 1}, low, ""},
		{[]int{0, 0, 2}, low, ""},
		{[]int{0, 0, 0, 1}, high, ""},
		{[]int{0, 0, 1, 1}, low + "23", ""},
		{[]int{1, 1, 1, 1}, "abXY" + low[4:] + "23", letters(20)},
		{[]int{2, 2, 2, 2}, "abXY" + low[4:] + "23", letters(16)},
		{[]int{1, 2, 0, 1}, "abXY" + high[4:], letters(16)},
		{[]int{1, 1, 1, 1, 1, 1, 2}, "abXY" + low[4:] + "23", letters(20)}, // longer than the list
		{[]int{0, 0, 0, 0, 1, 1, 1}, "abcdef", ""},
		{[]int{3, 3, 3, 3}, "abcdef", ""},
		{[]int{-1, -2, 4, 17}, "abcdef", ""},
		{[]int{math.MaxInt, math.MinInt, 1 << 32, 1<<32 + 1}, "abcdef", ""},
		{[]int{257, 258, 1, -1}, low, ""},
		{[]int{3, 1}, "abcdef", letters(20)},
	} {
		c := d.Copy()
		c.Crash(x.keep)
		if !c.Down() || c.Size(0) != len(x.zero) || c.Size(7) != len(x.last) {
			t.Errorf("%v: %v, %d, %d", x.keep, c.Down(), c.Size(0), c.Size(7))
		}
		c.Start()
		if c.Down() {
			t.Errorf("%v: down", x.keep)
		}
		holds(t, c, 0, x.zero)
		holds(t, c, 7, x.last)
		for _, f := range []int{1, 2, 3, 4, 5, 6} {
			holds(t, c, f, "")
		}
		// It is durable, and nothing is pending.
		left(t, c, []int{1, 1, 1, 1}, 0, x.zero)
		left(t, c, []int{1, 1, 1, 1}, 7, x.last)
		must(t, c.Turn(1, 0))
		must(t, c.Turn(2, 7))
	}
	holds(t, d, 0, "abXY"+low[4:]+"23")
}

// P6.3: the first half of pieces of every length, anywhere in a sector.
func TestHalves(t *testing.T) {
	s := letters(32)
	for at := 64; at < 96; at++ {
		for size := 1; at+size <= 96; size++ {
			d := New()
			must(t, d.Write(1, at, s[:size]))
			left(t, d, []int{2}, 1, zeros(at)+s[:min(16, size)])
			left(t, d, []int{1}, 1, zeros(at)+s[:size])
			left(t, d, []int{3}, 1, "")
			must(t, d.Write(1, 0, strings.Repeat("-", 100)))
			must(t, d.Flush(1))
			must(t, d.Write(1, at, s[:size]))
			half := min(16, size)
			left(t, d, []int{2}, 1, strings.Repeat("-", at)+s[:half]+strings.Repeat("-", 100-at-half))
		}
	}
}

// P6.3: what survives is put in the order of the list.
func TestOrderOfSurvivors(t *testing.T) {
	d := New()
	for i, s := range []string{"aaaaa", "bbb", "c", "dd"} {
		must(t, d.Write(3, []int{0, 1, 2, 1}[i], s))
	}
	for _, x := range []struct {
		keep []int
		want string
	}{
		{[]int{1, 1, 1, 1}, "addba"},
		{[]int{1, 1, 1}, "abcba"},
		{[]int{1, 1}, "abbba"},
		{[]int{1, 0, 1}, "aacaa"},
		{[]int{0, 1, 1}, "\x00bcb"},
		{[]int{0, 1, 0, 1}, "\x00ddb"},
		{[]int{0, 0, 1, 1}, "\x00dd"},
		{[]int{0, 0, 0, 1}, "\x00dd"},
		{[]int{0, 0, 1}, "\x00\x00c"},
	} {
		left(t, d, x.keep, 3, x.want)
	}
}

// P6.3: a crash of a machine that is down does nothing.
func TestCrashWhileDown(t *testing.T) {
	d := mixed(t)
	d.Lose(2)
	d.Crash([]int{0, 1})
	d.Arm(2, []int{1})
	before := about(real{d})
	d.Crash([]int{1, 1, 1})
	d.Crash(nil)
	if got := about(real{d}); got != before {
		t.Errorf("%s; want %s", got, before)
	}
	d.Start()
	holds(t, d, 0, "abcdef")
	holds(t, d, 1, "pqr")
	holds(t, d, 3, "")
}

// P6.3: Start brings the machine up, and does nothing if it is up.
func TestStart(t *testing.T) {
	d := mixed(t)
	d.Lose(2)
	d.Arm(3, []int{1, 0, 1})
	before := about(real{d})
	d.Start()
	if got := about(real{d}); got != before {
		t.Errorf("%s; want %s", got, before)
	}
	d.Crash(nil)
	d.Start()
	if d.Down() {
		t.Error("down")
	}
	must(t, d.Write(0, 0, "A"))
	holds(t, d, 0, "Abcdef")
	left(t, d, []int{1}, 0, "Abcdef") // its index is 0 again
	left(t, d, nil, 0, "abcdef")
}

// P6.2, P6.3: lost flushes return ErrLost and leave the file as it is.
func TestLose(t *testing.T) {
	for _, x := range []struct {
		set  []int
		lost int
	}{
		{nil, 0}, {[]int{0}, 0}, {[]int{1}, 1}, {[]int{3}, 3}, {[]int{-1}, 0}, {[]int{math.MinInt}, 0}, {[]int{5, 2}, 2}, {[]int{2, 5}, 5}, {[]int{3, 0}, 0}, {[]int{3, -1}, 0}, {[]int{3, -7, 1}, 1},
	} {
		d := mixed(t)
		for _, n := range x.set {
			d.Lose(n)
		}
		for range x.lost {
			refused(t, "lost", d.Flush(0), api.ErrLost)
			holds(t, d, 0, "abXYef")
			left(t, d, nil, 0, "abcdef")
			left(t, d, []int{1}, 0, "abXYef")
			left(t, d, []int{0, 1}, 1, "pqr")
			refused(t, "no file", d.Flush(8), api.ErrArg) // which does not count
		}
		must(t, d.Flush(0))
		left(t, d, nil, 0, "abXYef")
		left(t, d, nil, 1, "pq")
		must(t, d.Flush(1))
	}
	d := mixed(t)
	d.Lose(math.MaxInt)
	for f := range 8 {
		refused(t, "lost", d.Flush(f), api.ErrLost) // also where nothing is pending
	}
}

// P6.3: lost flushes that are due stay due in a crash, and can be set while the machine is down.
func TestLoseAndCrash(t *testing.T) {
	d := New()
	d.Lose(2)
	d.Crash(nil)
	refused(t, "down", d.Flush(0), api.ErrDown)
	d.Start()
	refused(t, "first", d.Flush(0), api.ErrLost)
	d.Arm(1, nil)
	refused(t, "armed", d.Flush(0), api.ErrDown) // it is not performed, so that the flush is not lost
	d.Start()
	refused(t, "second", d.Flush(0), api.ErrLost)
	must(t, d.Flush(0))
	d.Crash(nil)
	d.Lose(1)
	d.Start()
	refused(t, "third", d.Flush(0), api.ErrLost)
	must(t, d.Flush(0))
}

// P6.4: the call with which a crash comes. Before, XY at 2 of file 0, r at 2 of file 1 and n at 1 of file 3 are pending.
func TestArmTable(t *testing.T) {
	type files [4]string
	none, all := files{"abcdef", "pq", "uvw", ""}, files{"abXYef", "pqr", "uvw", "\x00n"}
	both := []int{1, 1, 1, 1, 1, 1}
	for _, x := range []struct {
		name string
		do   func(d *Disk) api.Errno
		keep []int
		want files
	}{
		{"write", func(d *Disk) api.Errno { return d.Write(2, 1, "VWXYZ") }, nil, none},
		{"write", func(d *Disk) api.Errno { return d.Write(2, 1, "VWXYZ") }, both, files{"abXYef", "pqr", "uVWXYZ", "\x00n"}},
		{"write", func(d *Disk) api.Errno { return d.Write(2, 1, "VWXYZ") }, []int{0, 0, 0, 1}, files{"abcdef", "pq", "uVWXYZ", ""}},
		{"write", func(d *Disk) api.Errno { return d.Write(2, 1, "VWXYZ") }, []int{1, 1, 1}, all},
		{"write across", func(d *Disk) api.Errno { return d.Write(2, 30, "0123") }, []int{0, 0, 0, 1, 0}, files{"abcdef", "pq", "uvw" + zeros(27) + "01", ""}},
		{"write across", func(d *Disk) api.Errno { return d.Write(2, 30, "0123") }, []int{0, 0, 0, 0, 1}, files{"abcdef", "pq", "uvw" + zeros(29) + "23", ""}},
		{"write half", func(d *Disk) api.Errno { return d.Write(2, 0, letters(30)) }, []int{0, 0, 0, 2}, files{"abcdef", "pq", letters(16), ""}},
		{"write nothing", func(d *Disk) api.Errno { return d.Write(2, 9, "") }, both, all},
		{"write to no file", func(d *Disk) api.Errno { return d.Write(8, 0, "x") }, both, all},
		{"write to no file", func(d *Disk) api.Errno { return d.Write(-1, 0, "x") }, []int{0, 1}, files{"abcdef", "pqr", "uvw", ""}},
		{"write before", func(d *Disk) api.Errno { return d.Write(2, -1, "xyz") }, both, all},
		{"write behind", func(d *Disk) api.Errno { return d.Write(2, 1<<24, "x") }, both, all},
		{"flush", func(d *Disk) api.Errno { return d.Flush(0) }, nil, none},
		{"flush", func(d *Disk) api.Errno { return d.Flush(0) }, []int{1}, files{"abXYef", "pq", "uvw", ""}},
		{"flush", func(d *Disk) api.Errno { return d.Flush(0) }, both, all},
		{"flush nothing", func(d *Disk) api.Errno { return d.Flush(7) }, []int{0, 0, 1}, files{"abcdef", "pq", "uvw", "\x00n"}},
		{"flush no file", func(d *Disk) api.Errno { return d.Flush(8) }, []int{0, 2}, files{"abcdef", "pqr", "uvw", ""}},
		{"cut", func(d *Disk) api.Errno { return d.Cut(0, 3) }, nil, none},
		{"cut", func(d *Disk) api.Errno { return d.Cut(2, 0) }, both, all},
		{"cut behind", func(d *Disk) api.Errno { return d.Cut(0, 99) }, both, all},
		{"cut no file", func(d *Disk) api.Errno { return d.Cut(9, 0) }, nil, none},
		{"turn", func(d *Disk) api.Errno { return d.Turn(0, 2) }, nil, none},
		{"turn", func(d *Disk) api.Errno { return d.Turn(0, 2) }, both, all},
		{"turn a pending file", func(d *Disk) api.Errno { return d.Turn(2, 0) }, nil, none},
		{"turn to itself", func(d *Disk) api.Errno { return d.Turn(2, 2) }, both, all},
		{"turn no file", func(d *Disk) api.Errno { return d.Turn(2, 8) }, nil, none},
	} {
		for n := 1; n < 5; n++ {
			d := mixed(t)
			d.Arm(n, x.keep)
			for range n - 1 {
				must(t, d.Flush(6))
				if d.Down() {
					t.Fatalf("%s: down before the call %d", x.name, n)
				}
			}
			refused(t, x.name, x.do(d), api.ErrDown)
			if !d.Down() {
				t.Fatalf("%s: not down after the call %d", x.name, n)
			}
			d.Start()
			for f, s := range x.want {
				holds(t, d, f, s)
				left(t, d, both, f, s)
			}
			for range 5 { // no further crash comes
				must(t, d.Write(0, 0, ""))
			}
		}
	}
}

// P6.4: each of the four calls counts, also one that returns an error or does nothing; no other one counts.
func TestArmCounts(t *testing.T) {
	for _, x := range []struct {
		name   string
		do     func(d *Disk) api.Errno
		want   api.Errno
		counts bool
	}{
		{"write", func(d *Disk) api.Errno { return d.Write(2, 1, "V") }, api.OK, true},
		{"long write", func(d *Disk) api.Errno { return d.Write(2, 1, letters(100)) }, api.OK, true},
		{"write nothing", func(d *Disk) api.Errno { return d.Write(2, 1, "") }, api.OK, true},
		{"write no file", func(d *Disk) api.Errno { return d.Write(8, 1, "V") }, api.ErrArg, true},
		{"write before", func(d *Disk) api.Errno { return d.Write(2, -1, "V") }, api.ErrArg, true},
		{"write behind", func(d *Disk) api.Errno { return d.Write(2, 1<<24, "V") }, api.ErrFull, true},
		{"flush", func(d *Disk) api.Errno { return d.Flush(0) }, api.OK, true},
		{"flush no file", func(d *Disk) api.Errno { return d.Flush(-1) }, api.ErrArg, true},
		{"lost flush", func(d *Disk) api.Errno { d.Lose(1); return d.Flush(0) }, api.ErrLost, true},
		{"cut", func(d *Disk) api.Errno { return d.Cut(0, 1) }, api.OK, true},
		{"cut behind", func(d *Disk) api.Errno { return d.Cut(0, 10) }, api.ErrArg, true},
		{"cut no file", func(d *Disk) api.Errno { return d.Cut(8, 1) }, api.ErrArg, true},
		{"turn", func(d *Disk) api.Errno { return d.Turn(0, 2) }, api.OK, true},
		{"turn to itself", func(d *Disk) api.Errno { return d.Turn(2, 2) }, api.ErrArg, true},
		{"turn a pending file", func(d *Disk) api.Errno { return d.Turn(2, 0) }, api.ErrState, true},
		{"turn no file", func(d *Disk) api.Errno { return d.Turn(8, 2) }, api.ErrArg, true},
		{"read", func(d *Disk) api.Errno { _, e := d.Read(0); return e }, api.OK, false},
		{"read no file", func(d *Disk) api.Errno { _, e := d.Read(8); return e }, api.ErrArg, false},
		{"size", func(d *Disk) api.Errno { d.Size(0); return api.OK }, api.OK, false},
		{"lose", func(d *Disk) api.Errno { d.Lose(0); return api.OK }, api.OK, false},
		{"start", func(d *Disk) api.Errno { d.Start(); return api.OK }, api.OK, false},
		{"down", func(d *Disk) api.Errno { d.Down(); return api.OK }, api.OK, false},
		{"copy", func(d *Disk) api.Errno { d.Copy().Flush(0); return api.OK }, api.OK, false},
	} {
		d := mixed(t)
		d.Arm(3, nil)
		refused(t, x.name, x.do(d), x.want)
		must(t, d.Flush(6))
		if !x.counts {
			must(t, d.Flush(6))
		}
		refused(t, x.name+", then flush", d.Flush(6), api.ErrDown)
		if !d.Down() {
			t.Errorf("%s: not down", x.name)
		}
	}
}

// P6.4: calls that are made while the machine is down do not count.
func TestArmWhileDown(t *testing.T) {
	d := mixed(t)
	d.Crash(nil)
	d.Arm(2, []int{0, 1})
	for range 3 {
		refused(t, "write", d.Write(0, 0, "x"), api.ErrDown)
		refused(t, "flush", d.Flush(0), api.ErrDown)
		refused(t, "cut", d.Cut(0, 0), api.ErrDown)
		refused(t, "turn", d.Turn(0, 1), api.ErrDown)
	}
	d.Crash(nil) // is none, and cancels nothing
	d.Start()
	must(t, d.Write(4, 0, "A"))
	refused(t, "second", d.Write(4, 1, "B"), api.ErrDown)
	d.Start()
	holds(t, d, 4, "\x00B")
	holds(t, d, 0, "abcdef")
}

// P6.4: a number less than 1 schedules nothing, and another call replaces the schedule.
func TestArmAgain(t *testing.T) {
	type arm struct {
		n    int
		keep []int
	}
	for _, x := range []struct {
		arms []arm
		call int // the call that crashes, or 0
		want string
	}{
		{[]arm{{0, nil}}, 0, ""},
		{[]arm{{-1, nil}}, 0, ""},
		{[]arm{{math.MinInt, []int{1}}}, 0, ""},
		{[]arm{{math.MaxInt, []int{1}}}, 0, ""},
		{[]arm{{1, []int{1}}}, 1, "abXYef"},
		{[]arm{{1, []int{1}}, {0, nil}}, 0, ""},
		{[]arm{{2, []int{1}}, {-5, []int{1}}}, 0, ""},
		{[]arm{{1, []int{1}}, {3, nil}}, 3, "abcdef"},
		{[]arm{{3, nil}, {1, []int{1}}}, 1, "abXYef"},
		{[]arm{{2, []int{1}}, {2, []int{0}}}, 2, "abcdef"},
		{[]arm{{0, []int{1}}, {2, nil}}, 2, "abcdef"},
		{[]arm{{4, []int{1}}, {0, nil}, {2, []int{2}}}, 2, "abXYef"},
	} {
		d := mixed(t)
		for _, a := range x.arms {
			d.Arm(a.n, a.keep)
		}
		for call := 1; call <= 6; call++ {
			want := api.OK
			if call == x.call {
				want = api.ErrDown
			}
			refused(t, "call", d.Flush(6), want)
			if call == x.call {
				d.Start()
				holds(t, d, 0, x.want)
			}
		}
	}
}

// P6.4: a schedule that is partly used up is replaced as well.
func TestArmLater(t *testing.T) {
	d := New()
	d.Arm(2, nil)
	must(t, d.Flush(0))
	d.Arm(2, nil)
	must(t, d.Flush(0))
	refused(t, "second", d.Flush(0), api.ErrDown)
	d.Start()
	must(t, d.Flush(0))
}

// P6.4: a crash cancels the schedule, one by Crash and one by Arm.
func TestCrashCancels(t *testing.T) {
	for n := 1; n < 4; n++ {
		d := mixed(t)
		d.Arm(n, []int{1, 1, 1})
		d.Crash(nil)
		d.Start()
		for range 4 {
			must(t, d.Write(0, 0, ""))
			must(t, d.Flush(0))
			must(t, d.Cut(0, 0))
			must(t, d.Turn(0, 1))
		}
		d.Arm(n, nil) // it can be set again
		for range n - 1 {
			must(t, d.Flush(0))
		}
		refused(t, "flush", d.Flush(0), api.ErrDown)
		d.Start()
		must(t, d.Flush(0))
	}
}

// P3: lists are neither changed nor kept, and what stands behind their end does not matter.
func TestLists(t *testing.T) {
	d := mixed(t)
	keep := []int{1, 0, 1}
	c := d.Copy()
	c.Arm(1, keep)
	keep[0], keep[1] = 0, 1
	x := c.Copy()
	for _, c := range []*Disk{c, x} {
		refused(t, "flush", c.Flush(0), api.ErrDown)
		c.Start()
		holds(t, c, 0, "abXYef")
		holds(t, c, 1, "pq")
		holds(t, c, 3, "\x00n")
	}
	long := []int{1, 1, 1}
	left(t, d, long[:1], 0, "abXYef")
	left(t, d, long[:1], 1, "pq")
	left(t, d, long[:0], 0, "abcdef")
	c = d.Copy()
	c.Arm(1, long[:1])
	c.Flush(6)
	c.Start()
	holds(t, c, 0, "abXYef")
	holds(t, c, 1, "pq")
	if !slices.Equal(long, []int{1, 1, 1}) || !slices.Equal(keep, []int{0, 1, 1}) {
		t.Error(long, keep)
	}
}

// P4: the same calls have the same results.
func TestRepetition(t *testing.T) {
	run := func() string {
		next, d, out := random(44), New(), ""
		for range 300 {
			out += strconv.Itoa(int(randomStep(next).do(real{d})))
		}
		return out + about(real{d})
	}
	first := run()
	for range 3 {
		if got := run(); got != first {
			t.Fatalf("%s; want %s", got, first)
		}
	}
}

// tracked follows a disk from outside: what was durable in its files, and what was written there since.
type tracked struct {
	d       *Disk
	durable [8]string
	since   [8][]write
}

// settled notes that the bytes of a file are durable.
func (k *tracked) settled(f int) {
	s, _ := k.d.Read(f)
	k.durable[f], k.since[f] = s, nil
}

// step makes a random call that is in order, and notes what it does.
func (k *tracked) step(next func(int) int) {
	f, g, at := next(3), next(3), next(70)
	text := randomText(next, next(50))
	switch next(9) {
	case 0:
		if k.d.Flush(f) == api.OK {
			k.settled(f)
		}
	case 1:
		if k.d.Cut(f, next(k.d.Size(f)+1)) == api.OK {
			k.settled(f)
		}
	case 2:
		if k.d.Turn(f, g) == api.OK {
			k.settled(f)
			k.settled(g)
		}
	default:
		if k.d.Write(f, at, text) == api.OK {
			k.since[f] = append(k.since[f], write{f, at, text})
		}
	}
}

// allowed reports whether a file may have this byte at a place after a crash.
func (k *tracked) allowed(f, place int, b byte) bool {
	if place < len(k.durable[f]) && k.durable[f][place] == b || place >= len(k.durable[f]) && b == 0 {
		return true
	}
	return slices.ContainsFunc(k.since[f], func(w write) bool {
		return place >= w.at && place < w.at+len(w.text) && w.text[place-w.at] == b
	})
}

// P6.5: after a crash, each byte was durable, was written since, or is 0 behind the durable part, and the length is between those of the durable part and of the file.
func TestBytesAfterCrash(t *testing.T) {
	next := random(65)
	for range 3000 {
		k := &tracked{d: New()}
		for range next(14) {
			k.step(next)
		}
		var size [8]int
		for f := range size {
			size[f] = k.d.Size(f)
		}
		k.d.Crash(randomKeep(next))
		k.d.Start()
		for f := range size {
			s, e := k.d.Read(f)
			if e != api.OK || len(s) < len(k.durable[f]) || len(s) > size[f] {
				t.Fatalf("file %d: %d bytes, %d; durable were %d of %d", f, len(s), e, len(k.durable[f]), size[f])
			}
			for place := range len(s) {
				if !k.allowed(f, place, s[place]) {
					t.Fatalf("file %d: %q with %d; durable was %q, since then %v", f, s, place, k.durable[f], k.since[f])
				}
			}
		}
	}
}

// P6.5: any of the pending writes can survive, in any way, whichever are lost.
func TestAnySurvive(t *testing.T) {
	d := New()
	must(t, d.Write(0, 0, strings.Repeat(".", 200)))
	must(t, d.Flush(0))
	must(t, d.Write(0, 10, letters(60))) // three pieces: 22, 32 and 6 bytes
	must(t, d.Write(0, 128, letters(20)))
	must(t, d.Write(1, 5, "one"))
	places := []int{10, 32, 64, 128}
	pieces := []string{letters(60)[:22], letters(60)[22:54], letters(60)[54:], letters(20)}
	for set := range 3 * 3 * 3 * 3 * 3 {
		keep := []int{set % 3, set / 3 % 3, set / 9 % 3, set / 27 % 3, set / 81}
		want := []byte(strings.Repeat(".", 200))
		for i, piece := range pieces {
			survivors := []int{0, len(piece), min(16, len(piece))}
			copy(want[places[i]:], piece[:survivors[keep[i]]])
		}
		left(t, d, keep, 0, string(want))
		if keep[4] == 0 {
			left(t, d, keep, 1, "")
		} else {
			left(t, d, keep, 1, zeros(5)+"one")
		}
	}
}

// P6.5: a crash with a Turn or a Cut leaves the files as they were, or, later, as they are to be.
func TestAtomic(t *testing.T) {
	for _, x := range []struct {
		name  string
		do    func(m machine) api.Errno
		after [4]string
	}{
		{"turn", func(m machine) api.Errno { return m.Turn(0, 2) }, [4]string{"uvw", "pq", "", ""}},
		{"turn back", func(m machine) api.Errno { return m.Turn(2, 7) }, [4]string{"abcdef", "pq", "", ""}},
		{"cut", func(m machine) api.Errno { return m.Cut(0, 5) }, [4]string{"abXYe", "pq", "uvw", ""}},
		{"cut all", func(m machine) api.Errno { return m.Cut(0, 0) }, [4]string{"", "pq", "uvw", ""}},
		{"cut nothing", func(m machine) api.Errno { return m.Cut(3, 2) }, [4]string{"abcdef", "pq", "uvw", "\x00n"}},
	} {
		for _, keep := range keeps() {
			before := mixed(t)
			c := before.Copy()
			c.Arm(1, keep)
			refused(t, x.name, x.do(real{c}), api.ErrDown)
			before.Crash(keep)
			if got, want := about(real{c}), about(real{before}); got != want {
				t.Errorf("%s, %v: %s; want %s", x.name, keep, got, want)
			}
		}
		after := mixed(t)
		must(t, x.do(real{after}))
		after.Crash(nil)
		after.Start()
		for f, s := range x.after {
			holds(t, after, f, s)
		}
	}
}
