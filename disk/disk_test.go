package disk

import (
	"math"
	"reflect"
	"slices"
	"strings"
	"testing"

	"linchpin/api"
)

// zeros returns n bytes 0.
func zeros(n int) string { return strings.Repeat("\x00", n) }

// letters returns n bytes, of which any 26 in sequence differ.
func letters(n int) string {
	b := make([]byte, n)
	for i := range b {
		b[i] = byte('a' + i%26)
	}
	return string(b)
}

// farFiles returns ints that are no number of a file.
func farFiles() []int {
	return []int{math.MinInt, math.MinInt + 1, -1 << 32, -8, -1, 8, 9, 16, 1 << 32, 1<<32 + 1, math.MaxInt - 1, math.MaxInt}
}

// must checks that a call returned OK.
func must(t *testing.T, e api.Errno) {
	t.Helper()
	if e != api.OK {
		t.Fatalf("error %d", e)
	}
}

// refused checks that a call returned an error.
func refused(t *testing.T, what string, got, want api.Errno) {
	t.Helper()
	if got != want {
		t.Errorf("%s: %d; want %d", what, got, want)
	}
}

// holds checks the bytes of a file.
func holds(t *testing.T, d *Disk, f int, want string) {
	t.Helper()
	if got, e := d.Read(f); got != want || e != api.OK {
		t.Errorf("file %d: %q, %d; want %q", f, got, e, want)
	}
	if got := d.Size(f); got != len(want) {
		t.Errorf("file %d: size %d; want %d", f, got, len(want))
	}
}

// left checks the bytes of a file after a crash of a copy of the disk.
func left(t *testing.T, d *Disk, keep []int, f int, want string) {
	t.Helper()
	c := d.Copy()
	c.Crash(keep)
	c.Start()
	holds(t, c, f, want)
}

// mixed returns a disk with durable bytes and pending writes: of file 0 "abcdef" with XY at 2, of file 1 "pq" and r behind it, of file 2 "uvw"; file 3 is pending only.
func mixed(t *testing.T) *Disk {
	t.Helper()
	d := New()
	for f, s := range []string{"abcdef", "pq", "uvw"} {
		must(t, d.Write(f, 0, s))
		must(t, d.Flush(f))
	}
	must(t, d.Write(0, 2, "XY"))
	must(t, d.Write(1, 2, "r"))
	must(t, d.Write(3, 1, "n"))
	return d
}

// Ways: the files are stored in an array of structs.
func TestFilesAreAnArray(t *testing.T) {
	files := reflect.TypeOf(New().files)
	if files.Kind() != reflect.Array || files.Len() != 8 || files.Elem().Kind() != reflect.Struct {
		t.Error(files)
	}
}

// P6.1: a new disk.
func TestNew(t *testing.T) {
	d := New()
	if d.Down() {
		t.Error("down")
	}
	for f := range 8 {
		holds(t, d, f, "")
		left(t, d, []int{1, 1}, f, "")
	}
	for range 3 {
		must(t, d.Flush(0)) // neither a lost flush nor a crash is due
	}
	must(t, d.Write(0, 0, "abc"))
	holds(t, New(), 0, "")
	holds(t, d, 0, "abc")
}

// P6.1: the size of files, also while the machine is down, and of what is no file.
func TestSize(t *testing.T) {
	d := mixed(t)
	must(t, d.Write(0, 40, "hi"))
	must(t, d.Write(0, 10, "."))
	sizes := func(want ...int) {
		t.Helper()
		for f, n := range want {
			if got := d.Size(f); got != n {
				t.Errorf("file %d: %d; want %d", f, got, n)
			}
		}
		for _, f := range farFiles() {
			if got := d.Size(f); got != 0 {
				t.Errorf("file %d: %d; want 0", f, got)
			}
		}
	}
	sizes(42, 3, 3, 2, 0, 0, 0, 0)
	d.Crash([]int{0, 1, 0, 0, 1})
	if !d.Down() {
		t.Error("not down")
	}
	sizes(11, 3, 3, 0, 0, 0, 0, 0)
	d.Start()
	if d.Down() {
		t.Error("down")
	}
	sizes(11, 3, 3, 0, 0, 0, 0, 0)
}

// P6.1: whatever is done to a copy or to the original cannot be observed in the other one.
func TestCopyApart(t *testing.T) {
	for _, do := range slices.Concat(shortSteps(), []step{
		{"lose 3", plain(func(m machine) { m.Lose(3) })},
		{"lose 0", plain(func(m machine) { m.Lose(0) })},
		{"arm 0", plain(func(m machine) { m.Arm(0, nil) })},
		{"flush 3", func(m machine) api.Errno { return m.Flush(3) }},
		{"turn 0 2", func(m machine) api.Errno { return m.Turn(0, 2) }},
	}) {
		for _, armed := range []int{0, 1, 3} {
			for _, down := range []bool{false, true} {
				d := mixed(t)
				d.Lose(2)
				if down {
					d.Crash([]int{1})
				}
				d.Arm(armed, []int{0, 1, 2})
				before := about(real{d})
				c := d.Copy()
				do.do(real{c})
				if got := about(real{d}); got != before {
					t.Errorf("%s on a copy: %s; want %s", do.name, got, before)
				}
				after := about(real{c})
				c = d.Copy()
				if do.do(real{d}); about(real{c}) != before {
					t.Errorf("%s on the original: %s; want %s", do.name, about(real{c}), before)
				}
				if got := about(real{d}); got != after {
					t.Errorf("%s: %s on the original, %s on the copy", do.name, got, after)
				}
			}
		}
	}
}

// P6.1: the lists of pending writes of copies grow apart, however much room they have.
func TestCopyGrows(t *testing.T) {
	d := New()
	for n := range 40 {
		must(t, d.Write(0, n, "-"))
		c, e := d.Copy(), d.Copy()
		must(t, c.Write(0, n+1, "C"))
		must(t, d.Write(0, n+1, "D"))
		must(t, e.Write(0, n+1, "E"))
		dashes := strings.Repeat("-", n+1)
		holds(t, c, 0, dashes+"C")
		holds(t, d, 0, dashes+"D")
		holds(t, e, 0, dashes+"E")
		d = c
	}
}

// P6.1: what Lose and Arm have set is copied, and used up on each side alone.
func TestCopySets(t *testing.T) {
	d := mixed(t)
	d.Lose(2)
	d.Arm(4, []int{0, 1, 1})
	refused(t, "first", d.Flush(0), api.ErrLost)
	c := d.Copy()
	for _, x := range []*Disk{d, c} {
		refused(t, "second", x.Flush(0), api.ErrLost)
		must(t, x.Flush(2))
		if x.Down() {
			t.Error("down")
		}
		refused(t, "fourth", x.Flush(0), api.ErrDown)
		if !x.Down() || !x.Copy().Down() {
			t.Error("not down")
		}
		x.Start()
		holds(t, x, 0, "abcdef")
		holds(t, x, 1, "pqr")
		holds(t, x, 3, "\x00n")
		must(t, x.Flush(0))
	}
}

// P6.2: results written out by hand.
func TestWriteTable(t *testing.T) {
	type w struct {
		at int
		s  string
	}
	for _, x := range []struct {
		durable string
		writes  []w
		want    string
	}{
		{"", []w{{0, "abc"}}, "abc"},
		{"", []w{{3, "abc"}}, zeros(3) + "abc"},
		{"", []w{{0, ""}}, ""},
		{"", []w{{9, ""}}, ""},
		{"abc", []w{{9, ""}}, "abc"},
		{"abc", []w{{3, ""}, {1, ""}}, "abc"},
		{"abc", []w{{3, "d"}}, "abcd"},
		{"abc", []w{{2, "d"}}, "abd"},
		{"abc", []w{{2, "de"}}, "abde"},
		{"abc", []w{{0, "d"}}, "dbc"},
		{"abc", []w{{0, "defg"}}, "defg"},
		{"abc", []w{{4, "d"}}, "abc\x00d"},
		{"abc", []w{{5, "xy"}, {3, "d"}}, "abcd\x00xy"},
		{"abc", []w{{5, "xy"}, {1, "QRSTU"}}, "aQRSTUy"},
		{"abcdef", []w{{1, "XYZ"}, {2, "1"}, {0, "."}}, ".X1Zef"},
		{"abcdef", []w{{2, "1"}, {1, "XYZ"}}, "aXYZef"},
		{"a\x00b", []w{{1, "\x00\xff"}}, "a\x00\xff"},
		{"", []w{{31, "ab"}}, zeros(31) + "ab"},
		{"", []w{{20, letters(100)}}, zeros(20) + letters(100)},
		{letters(70), []w{{30, "0123456789"}}, letters(70)[:30] + "0123456789" + letters(70)[40:]},
		{letters(70), []w{{64, "012345678"}, {32, "ABC"}}, letters(70)[:32] + "ABC" + letters(70)[35:64] + "012345678"},
	} {
		for f := range 8 {
			d := New()
			must(t, d.Write(f, 0, x.durable))
			must(t, d.Flush(f))
			for _, w := range x.writes {
				must(t, d.Write(f, w.at, w.s))
			}
			holds(t, d, f, x.want)
			left(t, d, nil, f, x.durable)
			left(t, d, slices.Repeat([]int{1}, 20), f, x.want)
			must(t, d.Flush(f))
			holds(t, d, f, x.want)
			left(t, d, nil, f, x.want)
			for g := range 8 {
				if g != f {
					holds(t, d, g, "")
				}
			}
		}
	}
}

// P6.2: writes are divided at the multiples of 32 in the file, and only there, in ascending order.
func TestPieces(t *testing.T) {
	s := letters(200)
	for at := range 100 {
		for size := range 104 {
			d := New()
			must(t, d.Write(4, at, s[:size]))
			count := 0
			for from := at; from < at+size; {
				until := min((from/32+1)*32, at+size)
				keep := make([]int, count+1)
				keep[count] = 1
				left(t, d, keep, 4, zeros(from)+s[from-at:until-at])
				from, count = until, count+1
			}
			// The write that follows has the next index.
			must(t, d.Write(5, 0, "next"))
			left(t, d, append(make([]int, count), 1), 5, "next")
			left(t, d, append(make([]int, count), 1), 4, "")
			left(t, d, slices.Repeat([]int{1}, count), 5, "")
		}
	}
}

// P6.2: the greatest offsets and lengths.
func TestWriteBounds(t *testing.T) {
	const most = 16777216
	for _, x := range []struct {
		at, size int
		want     api.Errno
	}{
		{most, 0, api.OK},
		{most + 1, 0, api.ErrFull},
		{most - 1, 1, api.OK},
		{most, 1, api.ErrFull},
		{most - 100, 100, api.OK},
		{most - 99, 100, api.ErrFull},
		{most + 1, 1, api.ErrFull},
		{2 * most, 0, api.ErrFull},
		{0, most, api.OK},
		{0, most + 1, api.ErrFull},
		{1, most - 1, api.OK},
		{1, most, api.ErrFull},
		{1 << 32, 0, api.ErrFull},
		{1 << 32, 5, api.ErrFull},
		{1 << 62, 5, api.ErrFull},
		{math.MaxInt, 0, api.ErrFull},
		{math.MaxInt, 1, api.ErrFull}, // the sum wraps around
		{math.MaxInt - 1, 2, api.ErrFull},
		{math.MaxInt - most, most + 1, api.ErrFull},
		{math.MaxInt - 4, 40, api.ErrFull},
		{-1, 0, api.ErrArg},
		{-1, 1, api.ErrArg},
		{-1, most + 1, api.ErrArg},
		{-1, most + 2, api.ErrArg},
		{-5, 10, api.ErrArg},
		{-most, 2 * most, api.ErrArg},
		{math.MinInt, 0, api.ErrArg},
		{math.MinInt, 10, api.ErrArg},
		{math.MinInt + 1, most, api.ErrArg},
	} {
		d := New()
		must(t, d.Write(6, 0, "ab"))
		s := strings.Repeat("x", x.size)
		refused(t, "write", d.Write(6, x.at, s), x.want)
		want := "ab"
		if x.want == api.OK && x.size > 0 {
			want = "ab"[:min(2, x.at)] + zeros(max(0, x.at-2)) + s
		}
		if got, e := d.Read(6); got != want || e != api.OK || d.Size(6) != len(want) {
			t.Errorf("%d bytes at %d: %d bytes, %d, size %d; want %d", x.size, x.at, len(got), e, d.Size(6), len(want))
		}
	}
}

// P6.2: a file of the greatest size is flushed, cut, turned and crashed as others.
func TestGreatest(t *testing.T) {
	const most = 16777216
	d, s := New(), letters(most)
	must(t, d.Write(0, 0, s))
	must(t, d.Write(1, most-3, "end"))
	c := d.Copy()
	keep := make([]int, most/32)
	keep[most/32-1], keep[1] = 1, 2
	c.Crash(keep)
	c.Start()
	if got, e := c.Read(0); e != api.OK || got != zeros(32)+s[32:48]+zeros(most-80)+s[most-32:] || c.Size(0) != most || c.Size(1) != 0 {
		t.Error("crash")
	}
	must(t, d.Flush(1))
	must(t, d.Cut(0, most-1))
	refused(t, "beyond", d.Cut(0, most), api.ErrArg)
	must(t, d.Write(0, most-1, "!"))
	refused(t, "write", d.Write(0, most-1, "!!"), api.ErrFull)
	must(t, d.Flush(0))
	if got, e := d.Read(0); e != api.OK || got != s[:most-1]+"!" {
		t.Error("cut")
	}
	must(t, d.Turn(0, 1))
	if got, e := d.Read(0); e != api.OK || got != zeros(most-3)+"end" {
		t.Error("turn")
	}
	holds(t, d, 1, "")
}

// calls returns the calls that return an error, for files with the given numbers; the other arguments are right if they can be.
func calls(f, g int) []step {
	return []step{
		{"write", func(m machine) api.Errno { return m.Write(f, 1, "ab") }},
		{"write nothing", func(m machine) api.Errno { return m.Write(f, 0, "") }},
		{"write behind", func(m machine) api.Errno { return m.Write(f, 1<<24, "a") }},
		{"write before", func(m machine) api.Errno { return m.Write(f, -1, "a") }},
		{"read", func(m machine) api.Errno {
			s, e := m.Read(f)
			if s != "" && e != api.OK {
				return -1
			}
			return e
		}},
		{"flush", func(m machine) api.Errno { return m.Flush(f) }},
		{"cut", func(m machine) api.Errno { return m.Cut(f, 0) }},
		{"cut behind", func(m machine) api.Errno { return m.Cut(f, 1<<24) }},
		{"turn from", func(m machine) api.Errno { return m.Turn(f, g) }},
		{"turn to", func(m machine) api.Errno { return m.Turn(g, f) }},
		{"turn same", func(m machine) api.Errno { return m.Turn(f, f) }},
	}
}

// P6.2: while the machine is down, every call returns ErrDown, and nothing changes.
func TestDown(t *testing.T) {
	for _, f := range append(farFiles(), 0, 1, 2, 3, 7) {
		for _, g := range []int{2, 3, 7, 8} {
			d := mixed(t)
			d.Lose(2)
			d.Crash([]int{1, 2})
			d.Arm(2, []int{1})
			before := about(real{d})
			for _, x := range calls(f, g) {
				refused(t, x.name, x.do(real{d}), api.ErrDown)
				if got := about(real{d}); got != before {
					t.Fatalf("%s of %d: %s; want %s", x.name, f, got, before)
				}
			}
		}
	}
}

// P6.2: a number that is no file's is ErrArg, before all other errors, and nothing changes.
func TestNoFile(t *testing.T) {
	for _, f := range farFiles() {
		for _, g := range []int{0, 2, 3, 7} { // of 0 and 3 writes are pending
			d := mixed(t)
			d.Lose(2)
			before := about(real{d})
			for _, x := range calls(f, g) {
				refused(t, x.name, x.do(real{d}), api.ErrArg)
				if got := about(real{d}); got != before {
					t.Fatalf("%s of %d: %s; want %s", x.name, f, got, before)
				}
			}
		}
	}
}

// P6.2: the other errors, after which nothing is changed.
func TestErrors(t *testing.T) {
	for _, x := range []struct {
		name string
		do   func(d *Disk) api.Errno
		want api.Errno
	}{
		{"write at -1", func(d *Disk) api.Errno { return d.Write(0, -1, "abc") }, api.ErrArg},
		{"write nothing at -1", func(d *Disk) api.Errno { return d.Write(0, -1, "") }, api.ErrArg},
		{"write behind", func(d *Disk) api.Errno { return d.Write(0, 1<<24-2, "abc") }, api.ErrFull},
		{"write nothing behind", func(d *Disk) api.Errno { return d.Write(0, 1<<24+1, "") }, api.ErrFull},
		{"cut at -1", func(d *Disk) api.Errno { return d.Cut(0, -1) }, api.ErrArg},
		{"cut at the least", func(d *Disk) api.Errno { return d.Cut(0, math.MinInt) }, api.ErrArg},
		{"cut behind", func(d *Disk) api.Errno { return d.Cut(0, 7) }, api.ErrArg},
		{"cut behind pending bytes", func(d *Disk) api.Errno { return d.Cut(1, 4) }, api.ErrArg},
		{"cut at the greatest", func(d *Disk) api.Errno { return d.Cut(1, math.MaxInt) }, api.ErrArg},
		{"cut of an empty file", func(d *Disk) api.Errno { return d.Cut(7, 1) }, api.ErrArg},
		{"turn to itself", func(d *Disk) api.Errno { return d.Turn(2, 2) }, api.ErrArg},
		{"turn to itself, pending", func(d *Disk) api.Errno { return d.Turn(0, 0) }, api.ErrArg},
		{"turn to itself, empty", func(d *Disk) api.Errno { return d.Turn(7, 7) }, api.ErrArg},
		{"turn of a pending file", func(d *Disk) api.Errno { return d.Turn(2, 0) }, api.ErrState},
		{"turn of a file that is only pending", func(d *Disk) api.Errno { return d.Turn(0, 3) }, api.ErrState},
		{"turn of both", func(d *Disk) api.Errno { return d.Turn(1, 0) }, api.ErrState},
	} {
		d := mixed(t)
		d.Lose(2)
		before := about(real{d})
		refused(t, x.name, x.do(d), x.want)
		if got := about(real{d}); got != before {
			t.Errorf("%s: %s; want %s", x.name, got, before)
		}
	}
}

// P6.2: Read returns the bytes and changes nothing.
func TestRead(t *testing.T) {
	d := mixed(t)
	d.Lose(1)
	d.Arm(2, []int{1, 0, 1})
	before := about(real{d})
	for range 3 {
		for f, want := range []string{"abXYef", "pqr", "uvw", "\x00n", "", "", "", ""} {
			holds(t, d, f, want)
		}
	}
	if got := about(real{d}); got != before {
		t.Errorf("%s; want %s", got, before)
	}
}

// P6.2: Flush makes one file durable, and its writes are no longer in the list.
func TestFlush(t *testing.T) {
	d := mixed(t)
	must(t, d.Write(0, 8, "Z"))
	// pending: 0 XY of 0, 1 r of 1, 2 n of 3, 3 Z of 0
	must(t, d.Flush(0))
	holds(t, d, 0, "abXYef\x00\x00Z")
	left(t, d, nil, 0, "abXYef\x00\x00Z")
	left(t, d, nil, 1, "pq")
	left(t, d, []int{1}, 1, "pqr")
	left(t, d, []int{1}, 3, "")
	left(t, d, []int{0, 1}, 3, "\x00n")
	must(t, d.Write(0, 0, "0"))
	left(t, d, []int{0, 0, 1}, 0, "0bXYef\x00\x00Z")
	must(t, d.Flush(1))
	must(t, d.Flush(1)) // nothing is pending
	must(t, d.Flush(7)) // an empty file
	left(t, d, []int{1}, 3, "\x00n")
	left(t, d, nil, 1, "pqr")
	left(t, d, nil, 7, "")
}

// P6.2: Cut at 0, within the durable part, within pending writes, and at the size.
func TestCut(t *testing.T) {
	for _, x := range []struct {
		n    int
		want string
	}{
		{0, ""}, {1, "a"}, {3, "abX"}, {4, "abXY"}, {6, "abXYef"}, {7, "abXYef\x00"}, {9, "abXYef\x00\x00Z"}, {40, "abXYef\x00\x00Z" + letters(40)[9:]}, {60, "abXYef\x00\x00Z" + letters(60)[9:]},
	} {
		d := mixed(t)
		must(t, d.Write(0, 8, "Z"))
		if x.n > 9 {
			must(t, d.Write(0, 9, letters(60)[9:]))
		}
		must(t, d.Cut(0, x.n))
		holds(t, d, 0, x.want)
		left(t, d, nil, 0, x.want)
		left(t, d, []int{1, 1, 1, 1}, 0, x.want)
		left(t, d, []int{1, 0}, 1, "pqr")
		left(t, d, []int{0, 1}, 3, "\x00n")
		must(t, d.Write(0, x.n, "+"))
		left(t, d, []int{0, 0, 1}, 0, x.want+"+")
		left(t, d, nil, 0, x.want)
		must(t, d.Cut(0, x.n+1))
		left(t, d, nil, 0, x.want+"+")
	}
	d := New()
	must(t, d.Cut(5, 0))
	holds(t, d, 5, "")
	must(t, d.Write(5, 40, "abc"))
	must(t, d.Cut(5, 42))
	left(t, d, nil, 5, zeros(40)+"ab")
	must(t, d.Write(5, 50, "x")) // what was cut away does not come back
	holds(t, d, 5, zeros(40)+"ab"+zeros(8)+"x")
}

// P6.2: lost flushes do not lose what Cut and Turn do.
func TestCutAndTurnAreNotLost(t *testing.T) {
	d := mixed(t)
	d.Lose(1)
	must(t, d.Cut(0, 5))
	must(t, d.Turn(1, 2))
	left(t, d, nil, 0, "abXYe")
	left(t, d, nil, 1, "uvw")
	refused(t, "flush", d.Flush(0), api.ErrLost)
}

// P6.2: Turn while writes of f are pending, of other files, and of empty files.
func TestTurn(t *testing.T) {
	d := mixed(t)
	must(t, d.Turn(0, 2))
	holds(t, d, 0, "uvw")
	holds(t, d, 2, "")
	holds(t, d, 1, "pqr")
	left(t, d, []int{1, 1, 1, 1}, 0, "uvw")
	left(t, d, nil, 0, "uvw")
	left(t, d, nil, 2, "")
	// pending: 0 r of 1, 1 n of 3
	left(t, d, []int{1}, 1, "pqr")
	left(t, d, []int{0, 1}, 1, "pq")
	left(t, d, []int{0, 1}, 3, "\x00n")
	must(t, d.Turn(2, 0))
	must(t, d.Turn(7, 2))
	left(t, d, nil, 7, "uvw")
	must(t, d.Turn(1, 6)) // an empty file in the place of one with a pending write
	holds(t, d, 1, "")
	left(t, d, []int{1, 1}, 1, "")
	left(t, d, []int{1}, 3, "\x00n")
	must(t, d.Turn(4, 5))
	holds(t, d, 4, "")
	refused(t, "pending", d.Turn(7, 3), api.ErrState)
	must(t, d.Flush(3))
	must(t, d.Turn(7, 3))
	holds(t, d, 7, "\x00n")
	must(t, d.Write(3, 0, "new"))
	holds(t, d, 3, "new")
	left(t, d, nil, 7, "\x00n")
}

// P6.2: for all files, in all places.
func TestTurnEvery(t *testing.T) {
	for f := range 8 {
		for g := range 8 {
			d := New()
			for x := range 8 {
				must(t, d.Write(x, 0, letters(x+1)))
				must(t, d.Flush(x))
			}
			if f == g {
				refused(t, "itself", d.Turn(f, g), api.ErrArg)
				continue
			}
			must(t, d.Turn(f, g))
			for x := range 8 {
				want := letters(x + 1)
				if x == f {
					want = letters(g + 1)
				}
				if x == g {
					want = ""
				}
				holds(t, d, x, want)
				left(t, d, nil, x, want)
			}
		}
	}
}
