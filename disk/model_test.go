package disk

import (
	"math"
	"strconv"
	"strings"
	"testing"

	"linchpin/api"
)

// machine is what the disk and its model have in common.
type machine interface {
	Write(f, at int, s string) api.Errno
	Read(f int) (string, api.Errno)
	Size(f int) int
	Flush(f int) api.Errno
	Cut(f, n int) api.Errno
	Turn(f, g int) api.Errno
	Crash(keep []int)
	Lose(n int)
	Arm(n int, keep []int)
	Start()
	Down() bool
	fork() machine
}

// real is the disk as a machine.
type real struct{ *Disk }

func (r real) fork() machine { return real{r.Copy()} }

// model is a disk that follows the definitions word by word.
type model struct {
	durable [8]string
	list    []write
	down    bool
	lost    int
	ahead   int
	keep    []int
}

// write is a pending write.
type write struct {
	f, at int
	text  string
}

// put puts a text into a string at an offset.
func put(s string, at int, text string) string {
	if len(s) < at {
		s += zeros(at - len(s))
	}
	if len(s) < at+len(text) {
		return s[:at] + text
	}
	return s[:at] + text + s[at+len(text):]
}

func (m *model) fork() machine {
	c := &model{durable: m.durable, down: m.down, lost: m.lost, ahead: m.ahead}
	c.list = append(c.list, m.list...)
	c.keep = append(c.keep, m.keep...)
	return c
}

func (m *model) bytes(f int) string {
	s := m.durable[f]
	for _, w := range m.list {
		if w.f == f {
			s = put(s, w.at, w.text)
		}
	}
	return s
}

// others returns the pending writes of the other files.
func (m *model) others(f int) []write {
	var l []write
	for _, w := range m.list {
		if w.f != f {
			l = append(l, w)
		}
	}
	return l
}

func (m *model) Down() bool { return m.down }
func (m *model) Start()     { m.down = false }

func (m *model) Size(f int) int {
	if f < 0 || f > 7 {
		return 0
	}
	return len(m.bytes(f))
}

func (m *model) Read(f int) (string, api.Errno) {
	switch {
	case m.down:
		return "", api.ErrDown
	case f < 0 || f > 7:
		return "", api.ErrArg
	}
	return m.bytes(f), api.OK
}

func (m *model) Lose(n int) {
	m.lost = n
	if n < 0 {
		m.lost = 0
	}
}

func (m *model) Arm(n int, keep []int) {
	m.ahead, m.keep = 0, nil
	if n >= 1 {
		m.ahead, m.keep = n, append(m.keep, keep...)
	}
}

func (m *model) Crash(keep []int) {
	if m.down {
		return
	}
	for i, w := range m.list {
		if i >= len(keep) || keep[i] != 1 && keep[i] != 2 {
			continue
		}
		text := w.text
		if keep[i] == 2 && len(text) > 16 {
			text = text[:16]
		}
		m.durable[w.f] = put(m.durable[w.f], w.at, text)
	}
	m.list, m.down, m.ahead, m.keep = nil, true, 0, nil
}

// call makes a call on the files. If the scheduled crash comes with it, it is only made on a copy, which counts if first reports so.
func (m *model) call(do func(*model) api.Errno, first func(api.Errno) bool, files ...int) api.Errno {
	if m.down {
		return api.ErrDown
	}
	checked := func(m *model) api.Errno {
		for _, f := range files {
			if f < 0 || f > 7 {
				return api.ErrArg
			}
		}
		return do(m)
	}
	m.ahead--
	if m.ahead != 0 {
		m.ahead = max(m.ahead, 0)
		return checked(m)
	}
	c := m.fork().(*model)
	if first(checked(c)) {
		*m = *c
	}
	m.Crash(m.keep)
	return api.ErrDown
}

func never(api.Errno) bool { return false }

func (m *model) Write(f, at int, s string) api.Errno {
	return m.call(func(m *model) api.Errno {
		if at < 0 {
			return api.ErrArg
		}
		if at > 1<<24 || len(s) > 1<<24 || at+len(s) > 1<<24 {
			return api.ErrFull
		}
		for i := range len(s) {
			if i == 0 || (at+i)%32 == 0 {
				m.list = append(m.list, write{f: f, at: at + i})
			}
			m.list[len(m.list)-1].text += s[i : i+1]
		}
		return api.OK
	}, func(e api.Errno) bool { return e == api.OK }, f)
}

func (m *model) Flush(f int) api.Errno {
	return m.call(func(m *model) api.Errno {
		if m.lost > 0 {
			m.lost--
			return api.ErrLost
		}
		m.durable[f], m.list = m.bytes(f), m.others(f)
		return api.OK
	}, never, f)
}

func (m *model) Cut(f, n int) api.Errno {
	return m.call(func(m *model) api.Errno {
		if n < 0 || n > m.Size(f) {
			return api.ErrArg
		}
		m.durable[f], m.list = m.bytes(f)[:n], m.others(f)
		return api.OK
	}, never, f)
}

func (m *model) Turn(f, g int) api.Errno {
	return m.call(func(m *model) api.Errno {
		switch {
		case f == g:
			return api.ErrArg
		case len(m.others(g)) < len(m.list):
			return api.ErrState
		}
		m.durable[f], m.durable[g], m.list = m.durable[g], "", m.others(f)
		return api.OK
	}, never, f, g)
}

// keeps returns lists of what survives a crash, for up to 30 pending writes.
func keeps() [][]int {
	out := [][]int{nil}
	for _, pattern := range [][]int{{1}, {2}, {1, 0}, {0, 1}, {2, 0, 1}, {0, 3, 1, -1, 2}} {
		var keep []int
		for i := range 30 {
			keep = append(keep, pattern[i%len(pattern)])
		}
		out = append(out, keep)
	}
	return out
}

// texts describes the bytes of all files of a machine.
func texts(m machine) string {
	var b strings.Builder
	for f := range 8 {
		s, e := m.Read(f)
		b.WriteString(strconv.Itoa(m.Size(f)) + strconv.Quote(s) + strconv.Itoa(int(e)) + " ")
	}
	return b.String()
}

// about describes what can be observed of a machine: what the files contain, what is left of them after crashes, and what Lose and Arm have set, as far as eight further calls show it.
func about(m machine) string {
	var b strings.Builder
	b.WriteString(strconv.FormatBool(m.Down()) + texts(m))
	for _, keep := range keeps() {
		c := m.fork()
		c.Crash(keep)
		c.Start()
		b.WriteString("\n" + texts(c))
	}
	c := m.fork()
	c.Start()
	for range 4 {
		b.WriteString("\n" + strconv.Itoa(int(c.Flush(-1))) + strconv.Itoa(int(c.Flush(5))))
	}
	c.Start()
	b.WriteString(texts(c))
	return b.String()
}

// same checks that a disk and its model cannot be told apart.
func same(t *testing.T, d *Disk, m *model, what string) {
	t.Helper()
	if got, want := about(real{d}), about(m); got != want {
		t.Fatalf("after%s:\n%s\nwant\n%s", what, got, want)
	}
}

// step is a call with its description.
type step struct {
	name string
	do   func(machine) api.Errno
}

func plain(do func(machine)) func(machine) api.Errno {
	return func(m machine) api.Errno {
		do(m)
		return api.OK
	}
}

// shortSteps returns calls that concern each other in many ways.
func shortSteps() []step {
	long := strings.Repeat("abcdefg", 6)
	return []step{
		{"write 0 3 XY", func(m machine) api.Errno { return m.Write(0, 3, "XY") }},
		{"write 0 28 long", func(m machine) api.Errno { return m.Write(0, 28, long) }},
		{"write 1 0 uvw", func(m machine) api.Errno { return m.Write(1, 0, "uvw") }},
		{"write 8", func(m machine) api.Errno { return m.Write(8, 0, "?") }},
		{"flush 0", func(m machine) api.Errno { return m.Flush(0) }},
		{"flush 1", func(m machine) api.Errno { return m.Flush(1) }},
		{"cut 0 4", func(m machine) api.Errno { return m.Cut(0, 4) }},
		{"cut 1 0", func(m machine) api.Errno { return m.Cut(1, 0) }},
		{"turn 0 1", func(m machine) api.Errno { return m.Turn(0, 1) }},
		{"turn 1 0", func(m machine) api.Errno { return m.Turn(1, 0) }},
		{"crash 0 1", plain(func(m machine) { m.Crash([]int{0, 1}) })},
		{"crash 2 2", plain(func(m machine) { m.Crash([]int{2, 2}) })},
		{"start", plain(func(m machine) { m.Start() })},
		{"lose 1", plain(func(m machine) { m.Lose(1) })},
		{"arm 1 1 2", plain(func(m machine) { m.Arm(1, []int{1, 2}) })},
		{"arm 2", plain(func(m machine) { m.Arm(2, nil) })},
	}
}

// descend takes every step after the given ones, on copies, and compares.
func descend(t *testing.T, d *Disk, m *model, depth int, before string) {
	for _, s := range shortSteps() {
		d, m := d.Copy(), m.fork().(*model)
		what := before + ", " + s.name
		if got, want := s.do(real{d}), s.do(m); got != want {
			t.Fatalf("after%s: %d; want %d", what, got, want)
		}
		same(t, d, m, what)
		if depth > 1 {
			descend(t, d, m, depth-1, what)
		}
	}
}

// P6.1 to P6.4: every sequence of up to three of these calls, against the definitions.
func TestShortSequences(t *testing.T) {
	descend(t, New(), &model{}, 3, "")
}

// random returns a function that returns numbers below a bound, the same ones each time.
func random(seed uint64) func(bound int) int {
	return func(bound int) int {
		seed = seed*6364136223846793005 + 1442695040888963407
		return int(seed>>33) % bound
	}
}

// randomText returns a text in which the bytes differ.
func randomText(next func(int) int, size int) string {
	b := make([]byte, size)
	for i := range b {
		b[i] = byte(1 + next(255))
	}
	return string(b)
}

// randomKeep returns a list of what survives a crash.
func randomKeep(next func(int) int) []int {
	var keep []int
	for range next(12) {
		keep = append(keep, []int{0, 1, 2, 1, 2, 3, -1}[next(7)])
	}
	return keep
}

// randomFile returns a number of a file, seldom one out of range.
func randomFile(next func(int) int) int {
	if next(20) == 0 {
		return []int{-1, 8, math.MinInt, math.MaxInt}[next(4)]
	}
	return []int{0, 1, 2, 7}[next(4)]
}

// randomStep returns a call with random arguments.
func randomStep(next func(int) int) step {
	f, g, n, keep := randomFile(next), randomFile(next), next(110)-3, randomKeep(next)
	text := randomText(next, next(4)*next(24))
	with := " " + strconv.Itoa(f) + " " + strconv.Itoa(g) + " " + strconv.Itoa(n)
	switch k := next(40); {
	case k < 20:
		return step{"write" + with + " " + strconv.Quote(text), func(m machine) api.Errno { return m.Write(f, n, text) }}
	case k < 25:
		return step{"flush" + with, func(m machine) api.Errno { return m.Flush(f) }}
	case k < 28:
		return step{"cut" + with, func(m machine) api.Errno { return m.Cut(f, n) }}
	case k < 31:
		return step{"turn" + with, func(m machine) api.Errno { return m.Turn(f, g) }}
	case k < 33:
		return step{"crash", plain(func(m machine) { m.Crash(keep) })}
	case k < 37:
		return step{"start", plain(func(m machine) { m.Start() })}
	case k < 38:
		return step{"lose" + with, plain(func(m machine) { m.Lose(n % 4) })}
	}
	return step{"arm" + with, plain(func(m machine) { m.Arm(n%9, keep) })}
}

// P6.1 to P6.4: long sequences of calls with random arguments, against the definitions.
func TestLongSequences(t *testing.T) {
	next := random(6)
	for range 400 {
		d, m, what := New(), &model{}, ""
		for range 50 {
			s := randomStep(next)
			what += ", " + s.name
			if got, want := s.do(real{d}), s.do(m); got != want {
				t.Fatalf("after%s: %d; want %d", what, got, want)
			}
			same(t, d, m, what)
		}
	}
}
