package journal

import (
	"math"
	"slices"
	"strconv"
	"strings"
	"testing"

	"linchpin/api"
	"linchpin/disk"
)

// must checks that a call returned OK.
func must(t *testing.T, e api.Errno) {
	t.Helper()
	if e != api.OK {
		t.Fatalf("error %d", e)
	}
}

// refused checks that a call returned an error.
func refused(t *testing.T, what string, got, want api.Errno) {
	t.Helper()
	if got != want {
		t.Errorf("%s: %d; want %d", what, got, want)
	}
}

// open opens a log.
func open(t *testing.T, d *disk.Disk, f int) *Log {
	t.Helper()
	l, e := Open(d, f)
	must(t, e)
	return l
}

// holds checks the rows of a log, and how many of them are sure.
func holds(t *testing.T, l *Log, sure int, rows ...string) {
	t.Helper()
	if !slices.Equal(l.All(), rows) || l.Sure() != sure {
		t.Errorf("%q, %d sure; want %q, %d sure", l.All(), l.Sure(), rows, sure)
	}
}

// reads checks the bytes of a file.
func reads(t *testing.T, d *disk.Disk, f int, want string) {
	t.Helper()
	if s, e := d.Read(f); s != want || e != api.OK {
		t.Errorf("file %d: %q, %d; want %q", f, s, e, want)
	}
}

// left checks the bytes of a file after a crash of a copy of the disk.
func left(t *testing.T, d *disk.Disk, keep []int, f int, want string) {
	t.Helper()
	c := d.Copy()
	c.Crash(keep)
	c.Start()
	reads(t, c, f, want)
}

// with returns a disk of which a file has these bytes.
func with(t *testing.T, f int, s string) *disk.Disk {
	t.Helper()
	d := disk.New()
	must(t, d.Write(f, 0, s))
	must(t, d.Flush(f))
	return d
}

// P7.2 to P7.4: the examples of the chapter.
func TestExamples(t *testing.T) {
	a, b := act{append: true, rows: []string{"a"}}, act{append: true, rows: []string{"b"}}
	for _, x := range []struct {
		acts []act
		want []string
	}{
		{[]act{a, {}, b}, []string{"a"}},
		{[]act{a, b}, nil},
		{[]act{a, {}, {rewrite: true, rows: []string{"b", "c"}}}, []string{"b", "c"}},
	} {
		d := disk.New()
		l := open(t, d, 0)
		for _, a := range x.acts {
			must(t, a.do(d, l))
		}
		d.Crash(nil)
		d.Start()
		holds(t, open(t, d, 0), len(x.want), x.want...)
	}
}

// P7.1: the errors of Open, and which one comes first.
func TestOpenErrors(t *testing.T) {
	fails := func(d *disk.Disk, f int, want api.Errno) {
		t.Helper()
		if l, e := Open(d, f); l != nil || e != want {
			t.Errorf("file %d: %v, %d; want %d", f, l, e, want)
		}
	}
	for _, bad := range []string{"", num(1) + num(0)} {
		for _, f := range []int{math.MinInt, math.MinInt + 1, -1 << 32, -7, -1, 7, 8, 1 << 32, 1<<32 + 1, math.MaxInt} {
			d := with(t, 7, bad)
			fails(d, f, api.ErrArg)
			d.Crash(nil)
			fails(d, f, api.ErrArg) // before the error of the disk
		}
		for f := range 7 {
			d := with(t, f, bad)
			if bad != "" {
				fails(d, f, api.ErrForm)
			} else {
				holds(t, open(t, d, f), 0)
			}
			d.Crash(nil)
			fails(d, f, api.ErrDown) // before that of the file
		}
	}
}

// P7.1: files and their rows, written out by hand.
func TestFiles(t *testing.T) {
	none, all := []string{}, headed("a", "", "ccc")
	for _, x := range []struct {
		s    string
		rows []string // nil: malformed
	}{
		{"", none},
		{"\xff", none},
		{num(-1), none},
		{(num(99) + num(99))[:15], none},
		{num(16)[:7] + strings.Repeat("\xff", 8), none},
		{num(0) + num(0), none},
		{num(0) + num(5), none},
		{num(0) + num(-1) + "behind", none},
		{num(0) + num(1) + forms("a"), none},
		{num(16) + num(0), none},
		{num(16) + num(0) + "behind", none},
		{num(16) + num(1), nil},
		{num(16) + num(-1), nil},
		{num(16) + num(1<<32), nil},
		{num(16) + num(math.MinInt), nil},
		{num(16) + num(1) + forms("a"), nil},
		{num(25) + num(0) + forms("a"), nil},
		{num(1) + num(0), nil},
		{num(8) + num(0), nil},
		{num(15) + num(0), nil},
		{num(17) + num(0), nil},
		{num(17) + num(0) + "a", nil},
		{num(17) + num(1) + "a", nil},
		{num(-1) + num(0), nil},
		{num(-16) + num(0), nil},
		{num(math.MinInt) + num(0), nil},
		{num(math.MinInt+16) + num(0), nil},
		{num(math.MaxInt) + num(0), nil},
		{num(1<<32+16) + num(0), nil},
		{num(1<<56) + num(0), nil},
		{num(23) + num(1) + forms("")[:7], nil},
		{num(23) + num(1) + forms(""), nil},
		{num(24) + num(1) + forms(""), []string{""}},
		{num(24) + num(1) + forms("")[:7], nil}, // it ends behind the file
		{num(24) + num(1) + forms("") + "behind", []string{""}},
		{num(24) + num(0) + forms(""), nil},
		{num(24) + num(2) + forms(""), nil},
		{num(24) + num(2) + forms("", ""), nil},
		{num(32) + num(2) + forms("", ""), []string{"", ""}},
		{num(32) + num(1) + forms("", ""), nil},
		{num(24) + num(1) + forms("a"), nil}, // the row ends behind the end
		{num(25) + num(1) + forms("a"), []string{"a"}},
		{num(26) + num(1) + forms("a"), nil},
		{num(26) + num(1) + forms("a") + "b", nil},
		{num(25) + num(2) + forms("a"), nil},
		{num(26) + num(2) + forms("a") + "b", nil},
		{num(24) + num(1) + num(-1), nil},
		{num(24) + num(0) + num(-8), nil},
		{num(32) + num(1) + num(-8) + num(0), nil},
		{num(32) + num(2) + num(-8) + num(-8), nil},
		{num(32) + num(1) + num(math.MinInt) + num(0), nil},
		{num(32) + num(1) + num(math.MaxInt) + num(0), nil},
		{num(32) + num(1) + num(math.MaxInt-7) + num(0), nil},
		{num(32) + num(1) + num(1<<32) + num(0), nil},
		{num(32) + num(1) + num(1<<32+8) + num(0), nil},
		{num(32) + num(1) + num(8) + num(-3), []string{num(-3)}},
		{num(32) + num(1) + num(9) + num(0) + "a", nil},
		{num(32) + num(1) + num(7) + num(0), nil},
		{all, []string{"a", "", "ccc"}},
		{all + "behind", []string{"a", "", "ccc"}},
		{all + all, []string{"a", "", "ccc"}},
		{all[:len(all)-1], nil},
		{headed(all), []string{all}},
	} {
		d := with(t, 5, x.s)
		l, e := Open(d, 5)
		switch {
		case x.rows == nil && (l != nil || e != api.ErrForm):
			t.Errorf("%q: %d; want %d", x.s, e, api.ErrForm)
		case x.rows != nil && e != api.OK:
			t.Errorf("%q: %d", x.s, e)
		case x.rows != nil:
			holds(t, l, len(x.rows), x.rows...)
		}
	}
}

// P7.1: files that consist of these pieces, against the definition.
func TestManyFiles(t *testing.T) {
	pieces := []string{"", "a", "bcdefgh", num(0), num(1), num(8), num(9), num(-1), num(-8), num(math.MaxInt - 7)}
	var bodies []string
	for _, a := range pieces {
		for _, b := range pieces {
			for _, c := range pieces {
				bodies = append(bodies, a+b+c)
			}
		}
	}
	for _, body := range bodies {
		for _, end := range []int{-1, 0, 15, 16, 17, 24, 25, 32, 33, 40, 15 + len(body), 16 + len(body), 17 + len(body)} {
			for count := -1; count <= 4; count++ {
				s := num(end) + num(count) + body
				l, e := Open(with(t, 2, s), 2)
				rows, ok := rowsOf(s)
				if !ok && (l != nil || e != api.ErrForm) || ok && (e != api.OK || !slices.Equal(l.All(), rows) || l.Sure() != len(rows)) {
					t.Fatalf("%q: %v, %d; want %q, %v", s, l, e, rows, ok)
				}
			}
		}
	}
}

// P7.1: Open changes nothing, and is no call that a scheduled crash comes with; writes that are pending are read.
func TestOpenReadsOnly(t *testing.T) {
	d := used(t)
	must(t, d.Write(5, 0, headed("x")))
	d.Lose(1)
	d.Arm(2, []int{1})
	before := seen(d)
	holds(t, open(t, d, 3), 2, "p", "qq")
	holds(t, open(t, d, 5), 1, "x")
	if _, e := Open(d, 4); e != api.ErrForm {
		t.Error(e)
	}
	if _, e := Open(d, 7); e != api.ErrArg {
		t.Error(e)
	}
	if got := seen(d); got != before {
		t.Errorf("%s\nwant\n%s", got, before)
	}
}

// P7.2: the form of a row is pending behind those of the others, as one write of the disk.
func TestAppend(t *testing.T) {
	d := disk.New()
	l := open(t, d, 4)
	long := strings.Repeat("0123456789", 5)
	must(t, l.Append("ab"))
	holds(t, l, 0, "ab")
	reads(t, d, 4, strings.Repeat("\x00", 16)+forms("ab"))
	must(t, l.Append(""))
	must(t, l.Append(long))
	holds(t, l, 0, "ab", "", long)
	all := strings.Repeat("\x00", 16) + forms("ab", "", long)
	reads(t, d, 4, all)
	left(t, d, nil, 4, "")
	// The forms are at 16, 26 and 34; what crosses a multiple of 32 is divided.
	left(t, d, []int{1}, 4, all[:26])
	left(t, d, []int{1, 1}, 4, all[:32])
	left(t, d, []int{1, 1, 1}, 4, all[:34])
	left(t, d, []int{1, 1, 1, 1}, 4, all[:64])
	left(t, d, []int{1, 1, 1, 1, 1}, 4, all)
	left(t, d, []int{1, 1, 1, 2}, 4, all[:50])
	for _, f := range []int{3, 5} {
		reads(t, d, f, "")
	}
	d = used(t)
	l = open(t, d, 3)
	must(t, l.Append("new"))
	reads(t, d, 3, headed("p", "qq")+forms("new")+forms("rest", "of")[11:])
	holds(t, l, 2, "p", "qq", "new")
}

// P7.2: an Append that the disk refuses leaves the log as it was.
func TestAppendRefused(t *testing.T) {
	const room = 1<<24 - 16
	for _, x := range []struct {
		rows []int // the sizes of rows that find room
		not  int   // the size of one that does not
	}{
		{nil, room - 7},
		{nil, 1 << 24},
		{[]int{room - 8}, 0},
		{[]int{room - 16, 0}, 0},
		{[]int{room - 20, 4}, 0},
		{[]int{3, room - 30}, 4},
	} {
		d := disk.New()
		l := open(t, d, 1)
		var rows []string
		for _, n := range x.rows {
			rows = append(rows, strings.Repeat("r", n))
			must(t, l.Append(rows[len(rows)-1]))
		}
		size := d.Size(1)
		refused(t, "full", l.Append(strings.Repeat("s", x.not)), api.ErrFull)
		holds(t, l, 0, rows...)
		if d.Size(1) != size {
			t.Errorf("size %d; want %d", d.Size(1), size)
		}
		if size <= room-8 {
			rows = append(rows, "")
			must(t, l.Append(""))
		}
		must(t, l.Flush())
		d.Crash(nil)
		d.Start()
		holds(t, open(t, d, 1), len(rows), rows...)
	}
	d := used(t)
	l := open(t, d, 3)
	must(t, l.Append("x"))
	d.Arm(1, []int{1, 1, 1, 1})
	refused(t, "crash", l.Append("y"), api.ErrDown)
	holds(t, l, 2, "p", "qq", "x")
	refused(t, "down", l.Append("z"), api.ErrDown)
	refused(t, "down", l.Append(strings.Repeat("z", 1<<24)), api.ErrDown)
	holds(t, l, 2, "p", "qq", "x")
	d.Start()
	reads(t, d, 3, headed("p", "qq")+forms("x", "y")+forms("rest", "of")[18:]) // it was written
	holds(t, open(t, d, 3), 2, "p", "qq")
}

// P7.3: Flush with all rows sure makes no call of the disk that changes it, and reports whether it is down.
func TestFlushOfNothing(t *testing.T) {
	for _, d := range []*disk.Disk{disk.New(), used(t)} {
		for _, again := range []bool{false, true} {
			l := open(t, d, 3)
			if again {
				must(t, l.Append("x"))
				must(t, l.Flush())
			}
			d.Lose(1)
			d.Arm(1, nil)
			before := seen(d)
			for range 3 {
				must(t, l.Flush())
			}
			if got := seen(d); got != before {
				t.Errorf("%s\nwant\n%s", got, before)
			}
			d.Crash(nil)
			for range 2 {
				refused(t, "down", l.Flush(), api.ErrDown)
			}
			holds(t, l, len(l.All()), l.All()...)
			d.Start()
			d.Lose(0)
		}
	}
}

// P7.3: Flush makes the rows durable and then the header, in three calls, and all rows are sure.
func TestFlush(t *testing.T) {
	d := used(t)
	l := open(t, d, 3)
	must(t, l.Append("new"))
	must(t, l.Append(""))
	must(t, d.Write(4, 0, "FOUR"))
	must(t, l.Flush())
	holds(t, l, 4, "p", "qq", "new", "")
	left(t, d, nil, 3, headed("p", "qq", "new", "")+forms("rest", "of")[19:])
	left(t, d, nil, 4, "four"+num(-1)+num(2)) // the other file is not flushed
	left(t, d, []int{1}, 4, "FOUR"+num(-1)+num(2))
	for n := 1; n <= 4; n++ {
		d := used(t)
		l := open(t, d, 3)
		must(t, l.Append("new"))
		d.Arm(n, []int{1, 1})
		if n < 4 {
			refused(t, "crash", l.Flush(), api.ErrDown)
			holds(t, l, 2, "p", "qq", "new")
			refused(t, "down", l.Flush(), api.ErrDown)
			holds(t, l, 2, "p", "qq", "new")
			continue
		}
		must(t, l.Flush())
		refused(t, "the call behind them", d.Flush(7), api.ErrDown)
	}
}

// P7.3, P7.4: lost flushes leave the log as it was; it can go on.
func TestLostFlushes(t *testing.T) {
	d := used(t)
	l := open(t, d, 3)
	must(t, l.Append("x"))
	d.Lose(2)
	refused(t, "lost", l.Flush(), api.ErrLost)
	reads(t, d, 3, headed("p", "qq")+forms("x")+forms("rest", "of")[9:]) // no header was written
	holds(t, l, 2, "p", "qq", "x")
	refused(t, "lost", l.Rewrite([]string{"n"}), api.ErrLost)
	reads(t, d, 4, headed("n")) // what was written there is pending
	left(t, d, nil, 4, "")
	holds(t, l, 2, "p", "qq", "x")
	must(t, l.Append("y"))
	must(t, l.Flush())
	holds(t, l, 4, "p", "qq", "x", "y")
	left(t, d, nil, 3, headed("p", "qq", "x", "y")+forms("rest", "of")[18:])
	d.Lose(1)
	refused(t, "lost", l.Rewrite(nil), api.ErrLost)
	holds(t, l, 4, "p", "qq", "x", "y")
	must(t, l.Rewrite(nil))
	holds(t, l, 0)
	reads(t, d, 3, headed())
}

// P7.4: Rewrite replaces the file by one that has the rows and nothing else; all of it is durable.
func TestRewrite(t *testing.T) {
	for _, rows := range [][]string{nil, {}, {""}, {"a"}, {"", "b", ""}, {strings.Repeat("long", 50), "x"}} {
		d := used(t)
		l := open(t, d, 3)
		must(t, l.Append("pending"))
		must(t, d.Write(4, 3, "pending"))
		must(t, l.Rewrite(rows))
		holds(t, l, len(rows), rows...)
		left(t, d, []int{1, 1, 1}, 3, headed(rows...))
		left(t, d, []int{1, 1, 1}, 4, "")
		left(t, d, nil, 2, "two")
		must(t, l.Append("next"))
		holds(t, l, len(rows), append(slices.Clone(rows), "next")...)
		reads(t, d, 3, headed(rows...)+forms("next"))
		must(t, l.Flush())
		left(t, d, nil, 3, headed(append(slices.Clone(rows), "next")...))
	}
}

// P7.4: Rewrite that fails at one of its calls leaves the log as it was; the calls before were made.
func TestRewriteRefused(t *testing.T) {
	begin, rows := "four"+num(-1)+num(2), []string{"new", ""}
	for n, next := range []string{begin, headed(rows...), "", headed(rows...), ""} {
		d := used(t)
		l := open(t, d, 3)
		must(t, l.Append("x"))
		keep := []int{1, 1, 1}
		if n == 2 {
			keep = nil // it was to be flushed
		}
		d.Arm(n+1, keep)
		if n == 4 {
			must(t, l.Rewrite(rows))
			holds(t, l, 2, rows...)
			refused(t, "the call behind them", d.Flush(7), api.ErrDown)
			continue
		}
		refused(t, "crash", l.Rewrite(rows), api.ErrDown)
		holds(t, l, 2, "p", "qq", "x")
		refused(t, "down", l.Rewrite(rows), api.ErrDown)
		refused(t, "down", l.Rewrite(nil), api.ErrDown)
		holds(t, l, 2, "p", "qq", "x")
		d.Start()
		reads(t, d, 4, next)
		if s, _ := d.Read(3); !strings.HasPrefix(s, headed("p", "qq")) {
			t.Errorf("%q", s)
		}
	}
}

// P7.4: rows for which the disk has no room leave the log as it was; the file behind is empty by then.
func TestRewriteFull(t *testing.T) {
	half := strings.Repeat("h", 1<<23-16)
	d := used(t)
	l := open(t, d, 3)
	must(t, l.Append("x"))
	refused(t, "full", l.Rewrite([]string{half, half, "1"}), api.ErrFull)
	refused(t, "full", l.Rewrite([]string{half, half + "1"}), api.ErrFull)
	holds(t, l, 2, "p", "qq", "x")
	left(t, d, nil, 4, "")
	must(t, l.Append("y"))
	must(t, l.Flush())
	left(t, d, nil, 3, headed("p", "qq", "x", "y")+forms("rest", "of")[18:])
	must(t, l.Rewrite([]string{half, half}))
	holds(t, l, 2, half, half)
	refused(t, "full", l.Append(""), api.ErrFull)
	must(t, l.Rewrite(make([]string, 1<<21-2)))
	if n := len(open(t, d, 3).All()); n != 1<<21-2 {
		t.Error(n)
	}
	refused(t, "full", l.Rewrite(make([]string, 1<<21-1)), api.ErrFull)
}

// P7.1, P7.4: logs in files that do not concern each other; the last one uses file 7.
func TestTwoLogs(t *testing.T) {
	d := disk.New()
	l, m := open(t, d, 6), open(t, d, 4)
	for i := range 5 {
		s := strconv.Itoa(i)
		must(t, l.Append("l"+s))
		must(t, m.Append("m"+s))
		if i == 2 {
			must(t, l.Rewrite([]string{"l"}))
			must(t, m.Flush())
		}
	}
	must(t, m.Rewrite([]string{"m"}))
	holds(t, l, 1, "l", "l3", "l4")
	must(t, l.Flush())
	d.Crash(nil)
	d.Start()
	holds(t, open(t, d, 6), 3, "l", "l3", "l4")
	holds(t, open(t, d, 4), 1, "m")
}

// P7.5: All and Sure, also while the disk is down.
func TestAllAndSure(t *testing.T) {
	d := disk.New()
	l := open(t, d, 0)
	holds(t, l, 0)
	var rows []string
	sure := 0
	for i := range 40 {
		rows = append(rows, strings.Repeat("r", i))
		must(t, l.Append(rows[i]))
		holds(t, l, sure, rows...)
		if i%7 == 3 {
			sure = i + 1
			must(t, l.Flush())
			holds(t, l, sure, rows...)
		}
	}
	d.Crash(nil)
	holds(t, l, sure, rows...)
	d.Start()
	holds(t, open(t, d, 0), sure, rows[:sure]...)
}

// P7.6: neither the rows that are given nor those that were returned have to do with the log.
func TestMemory(t *testing.T) {
	d := disk.New()
	l := open(t, d, 0)
	given := []string{"a", "b", "beyond"}
	must(t, l.Rewrite(given[:2]))
	must(t, l.Append("c"))
	if !slices.Equal(given, []string{"a", "b", "beyond"}) {
		t.Error(given)
	}
	given[0] = "changed"
	holds(t, l, 2, "a", "b", "c")
	one, two := l.All(), l.All()
	one[0], one[2] = "changed", "too"
	_ = append(one[:1], "more", "and more")
	holds(t, l, 2, "a", "b", "c")
	if !slices.Equal(two, []string{"a", "b", "c"}) {
		t.Error(two)
	}
	must(t, l.Append("d"))
	must(t, l.Flush())
	must(t, l.Rewrite(l.All()[1:]))
	holds(t, l, 3, "b", "c", "d")
	if !slices.Equal(two, []string{"a", "b", "c"}) {
		t.Error(two)
	}
	opened := open(t, d, 0).All()
	opened[0] = "changed"
	holds(t, l, 3, "b", "c", "d")
	reads(t, d, 0, headed("b", "c", "d"))
}

// P7.6: rows that were opened cannot be reached through what All returned.
func TestMemoryOfOpened(t *testing.T) {
	d := used(t)
	l := open(t, d, 3)
	l.All()[1] = "changed"
	before := append(l.All(), "x")
	must(t, l.Append("y"))
	holds(t, l, 2, "p", "qq", "y")
	if before[2] != "x" {
		t.Error(before)
	}
	m := open(t, d, 3)
	must(t, m.Append("m"))
	holds(t, l, 2, "p", "qq", "y")
}
