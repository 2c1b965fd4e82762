package journal

import (
	"encoding/binary"
	"slices"
	"strconv"
	"strings"
	"testing"

	"linchpin/api"
	"linchpin/disk"
)

// log is what the log and its model have in common.
type log interface {
	Append(row string) api.Errno
	Flush() api.Errno
	Rewrite(rows []string) api.Errno
	All() []string
	Sure() int
}

// openLog opens a log as a log.
func openLog(d *disk.Disk, f int) (log, api.Errno) {
	l, e := Open(d, f)
	if l == nil {
		return nil, e
	}
	return l, e
}

// files is a disk, or a spy on one.
type files interface {
	Read(f int) (string, api.Errno)
	Write(f, at int, s string) api.Errno
	Flush(f int) api.Errno
	Cut(f, n int) api.Errno
	Turn(f, g int) api.Errno
	Down() bool
}

// model is a log that follows the definitions word by word.
type model struct {
	d    files
	f    int
	rows []string
	sure int
}

// num returns a number of 8 bytes.
func num(n int) string {
	return string(binary.LittleEndian.AppendUint64(nil, uint64(n)))
}

// forms returns the forms of rows.
func forms(rows ...string) string {
	s := ""
	for _, row := range rows {
		s += num(len(row)) + row
	}
	return s
}

// headed returns the header for rows, and their forms.
func headed(rows ...string) string {
	s := forms(rows...)
	return num(16+len(s)) + num(len(rows)) + s
}

// rowsOf returns the rows of a file, or false if it is malformed. Numbers are compared without a sign: a negative one is greater than all others.
func rowsOf(s string) ([]string, bool) {
	if len(s) < 16 || s[:8] == num(0) {
		return nil, true
	}
	end := binary.LittleEndian.Uint64([]byte(s))
	if end < 16 || end > uint64(len(s)) {
		return nil, false
	}
	var rows []string
	for at := uint64(16); at < end; {
		if end-at < 8 {
			return nil, false
		}
		n := binary.LittleEndian.Uint64([]byte(s[at:]))
		at += 8
		if n > end-at {
			return nil, false
		}
		rows = append(rows, s[at:at+n])
		at += n
	}
	return rows, s[8:16] == num(len(rows))
}

func openModel(d files, f int) (log, api.Errno) {
	if f < 0 || f > 6 {
		return nil, api.ErrArg
	}
	s, e := d.Read(f)
	if e != api.OK {
		return nil, e
	}
	rows, ok := rowsOf(s)
	if !ok {
		return nil, api.ErrForm
	}
	return &model{d: d, f: f, rows: rows, sure: len(rows)}, api.OK
}

func (m *model) All() []string { return m.rows }
func (m *model) Sure() int     { return m.sure }

func (m *model) Append(row string) api.Errno {
	e := m.d.Write(m.f, 16+len(forms(m.rows...)), forms(row))
	if e == api.OK {
		m.rows = append(m.rows, row)
	}
	return e
}

func (m *model) Flush() api.Errno {
	switch {
	case m.sure == len(m.rows) && m.d.Down():
		return api.ErrDown
	case m.sure == len(m.rows):
		return api.OK
	}
	if e := m.d.Flush(m.f); e != api.OK {
		return e
	}
	if e := m.d.Write(m.f, 0, headed(m.rows...)[:16]); e != api.OK {
		return e
	}
	if e := m.d.Flush(m.f); e != api.OK {
		return e
	}
	m.sure = len(m.rows)
	return api.OK
}

func (m *model) Rewrite(rows []string) api.Errno {
	if e := m.d.Cut(m.f+1, 0); e != api.OK {
		return e
	}
	if e := m.d.Write(m.f+1, 0, headed(rows...)); e != api.OK {
		return e
	}
	if e := m.d.Flush(m.f + 1); e != api.OK {
		return e
	}
	if e := m.d.Turn(m.f, m.f+1); e != api.OK {
		return e
	}
	m.rows, m.sure = append([]string(nil), rows...), len(rows)
	return api.OK
}

// keepLists returns lists of what survives a crash, for up to 24 pending writes.
func keepLists() [][]int {
	lists := [][]int{nil}
	for _, pattern := range [][]int{{1}, {1, 0}, {0, 1}, {2, 0, 1}, {0, 2, 2, 1}} {
		var keep []int
		for i := range 24 {
			keep = append(keep, pattern[i%len(pattern)])
		}
		lists = append(lists, keep)
	}
	return lists
}

// contents describes the bytes of all files of a disk.
func contents(d *disk.Disk) string {
	var b strings.Builder
	for f := range 8 {
		s, e := d.Read(f)
		b.WriteString(strconv.Itoa(d.Size(f)) + "," + strconv.Itoa(int(e)) + strconv.Quote(s) + " ")
	}
	return b.String()
}

// seen describes what can be seen of a disk: its files, now and after crashes, and what Lose and Arm have set, as far as six flushes show it.
func seen(d *disk.Disk) string {
	var b strings.Builder
	b.WriteString(strconv.FormatBool(d.Down()) + contents(d))
	for _, keep := range keepLists() {
		c := d.Copy()
		c.Crash(keep)
		c.Start()
		b.WriteString("\n" + contents(c))
	}
	c := d.Copy()
	c.Start()
	for range 6 {
		b.WriteString(" " + strconv.Itoa(int(c.Flush(7))))
	}
	c.Start()
	b.WriteString("\n" + contents(c))
	return b.String()
}

// side is a disk with a log, or with its model.
type side struct {
	d    *disk.Disk
	l    log // nil: none could be opened
	open func(d *disk.Disk, f int) (log, api.Errno)
}

// about describes a side.
func about(s *side) string {
	if s.l == nil {
		return "closed " + seen(s.d)
	}
	return strconv.Itoa(s.l.Sure()) + quoted(s.l.All()) + seen(s.d)
}

// quoted describes rows.
func quoted(rows []string) string {
	s := "["
	for _, row := range rows {
		s += strconv.Quote(row)
	}
	return s + "]"
}

// step is a call with its description.
type step struct {
	name string
	do   func(s *side) api.Errno
}

// onLog returns a step that concerns the log, if there is one.
func onLog(name string, do func(l log) api.Errno) step {
	return step{name, func(s *side) api.Errno {
		if s.l == nil {
			return -1
		}
		return do(s.l)
	}}
}

// onDisk returns a step that concerns the disk.
func onDisk(name string, do func(d *disk.Disk)) step {
	return step{name, func(s *side) api.Errno {
		do(s.d)
		return api.OK
	}}
}

func appends(row string) step {
	return onLog("append "+row, func(l log) api.Errno { return l.Append(row) })
}

func flushes() step {
	return onLog("flush", func(l log) api.Errno { return l.Flush() })
}

func rewrites(rows ...string) step {
	return onLog("rewrite "+quoted(rows), func(l log) api.Errno { return l.Rewrite(rows) })
}

func loses(n int) step {
	return onDisk("lose "+strconv.Itoa(n), func(d *disk.Disk) { d.Lose(n) })
}

func arms(n int, keep ...int) step {
	return onDisk("arm "+strconv.Itoa(n), func(d *disk.Disk) { d.Arm(n, keep) })
}

func crashes(keep ...int) step {
	return onDisk("crash", func(d *disk.Disk) { d.Crash(keep) })
}

// opens returns a step that starts the machine and opens the log of a file again.
func opens(f int) step {
	return step{"open", func(s *side) api.Errno {
		s.d.Start()
		var e api.Errno
		s.l, e = s.open(s.d, f)
		return e
	}}
}

// begin returns both sides, on copies of a disk, with the log of a file.
func begin(d *disk.Disk, f int) (*side, *side) {
	got := &side{d: d.Copy(), open: openLog}
	want := &side{d: d.Copy(), open: func(d *disk.Disk, f int) (log, api.Errno) { return openModel(d, f) }}
	opens(f).do(got)
	opens(f).do(want)
	return got, want
}

// take takes a step on both sides and compares what it returns.
func take(t *testing.T, got, want *side, s step, what string) {
	t.Helper()
	if a, b := s.do(got), s.do(want); a != b {
		t.Fatalf("%s: %d; want %d", what, a, b)
	}
}

// compare checks that both sides cannot be told apart.
func compare(t *testing.T, got, want *side, what string) {
	t.Helper()
	if a, b := about(got), about(want); a != b {
		t.Fatalf("%s:\n%s\nwant\n%s", what, a, b)
	}
}

// used returns a disk of which file 3 contains the rows p and qq, and other bytes behind them; files 2 and 4 contain what is no list of rows.
func used(t *testing.T) *disk.Disk {
	t.Helper()
	d := disk.New()
	must(t, d.Write(3, 0, headed("p", "qq")+forms("rest", "of")))
	must(t, d.Write(4, 0, "four"+num(-1)+num(2)))
	must(t, d.Write(2, 0, "two"))
	for f := 2; f <= 4; f++ {
		must(t, d.Flush(f))
	}
	return d
}

// P7.1 to P7.5: every sequence of up to four of these calls, against the definitions.
func TestShortSequences(t *testing.T) {
	steps := []step{
		appends("a"), appends(""), appends(strings.Repeat("long", 11)),
		flushes(), rewrites(), rewrites("x", "", strings.Repeat("y", 30)),
		loses(1), arms(2, 1, 1, 1), arms(3, 0, 1, 0), crashes(1, 0, 1), opens(3),
	}
	var descend func(before []step, what string)
	descend = func(before []step, what string) {
		for _, s := range steps {
			now := append(slices.Clone(before), s)
			got, want := begin(used(t), 3)
			for _, s := range now {
				take(t, got, want, s, what+", "+s.name)
			}
			compare(t, got, want, what+", "+s.name)
			if len(now) < 4 {
				descend(now, what+", "+s.name)
			}
		}
	}
	descend(nil, "")
}

// random returns a function that returns numbers below a bound, the same ones each time.
func random(seed uint64) func(bound int) int {
	return func(bound int) int {
		seed = seed*6364136223846793005 + 1442695040888963407
		return int(seed>>33) % bound
	}
}

// randomRow returns a row, which is often short.
func randomRow(next func(int) int) string {
	b := make([]byte, next(3)*next(30))
	for i := range b {
		b[i] = byte(next(256))
	}
	return string(b)
}

// randomKeep returns a list of what survives a crash.
func randomKeep(next func(int) int) []int {
	keep := make([]int, next(10))
	for i := range keep {
		keep[i] = next(4)
	}
	return keep
}

// randomStep returns a call of the log or of the disk with random arguments.
func randomStep(next func(int) int, f int) step {
	row, keep := randomRow(next), randomKeep(next)
	switch k := next(40); {
	case k < 18:
		return appends(row)
	case k < 25:
		return flushes()
	case k < 29:
		var rows []string
		for range next(5) {
			rows = append(rows, randomRow(next))
		}
		return rewrites(rows...)
	case k < 31:
		return loses(next(3))
	case k < 34:
		return arms(next(9), keep...)
	case k < 35:
		return crashes(keep...)
	}
	return opens(f)
}

// P7.1 to P7.5: long sequences of calls with random arguments, on every file that a log can have, against the definitions.
func TestLongSequences(t *testing.T) {
	next := random(7)
	for i := range 350 {
		f := i % 7
		got, want := begin(disk.New(), f)
		what := "file " + strconv.Itoa(f)
		for range 50 {
			s := randomStep(next, f)
			what += ", " + s.name
			take(t, got, want, s, what)
			compare(t, got, want, what)
		}
	}
}
