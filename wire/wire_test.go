package wire

import (
	"math"
	"math/big"
	"slices"
	"strings"
	"testing"
)

// edges returns the ints at which a number of groups or of bits ends, and their neighbours; none of them twice.
func edges() []int {
	l := []int{math.MaxInt, math.MaxInt - 1, math.MinInt, math.MinInt + 1, 300, -300, 0x123456789abcdef, -0x123456789abcdef}
	for i := range 63 {
		for d := -1; d <= 1; d++ {
			l = append(l, 1<<i+d, -1<<i+d)
		}
	}
	slices.Sort(l)
	return slices.Compact(l)
}

// texts returns strings with lengths of one to three groups, and strings that look like encodings.
func texts() []string {
	return []string{
		"", "\x00", "\x01", "\x80", "\xff", "\x00\x00", "\x01\x00", "\x02\x02\x01", "a", "b", "ab", "a\x00b", "\xe2\x82\xac", "\xff\xfe",
		strings.Repeat("x", 127), strings.Repeat("x", 128), strings.Repeat("\x80", 129), strings.Repeat("\x00", 16383), strings.Repeat("y", 16384),
	}
}

// intLists returns lists of ints, among them one with all edges.
func intLists() [][]int {
	return [][]int{nil, {0}, {1}, {-1}, {0, 0}, {0, 1}, {1, -1}, {2, 0, 0}, {math.MinInt}, {math.MaxInt, math.MinInt, 0}, edges(), make([]int, 127), make([]int, 128), make([]int, 16384)}
}

// textLists returns lists of strings.
func textLists() [][]string {
	return [][]string{nil, {""}, {"", ""}, {"\x00"}, {"\x00", ""}, {"", "\x00"}, {"x"}, {"", "x"}, {"x", ""}, {"ab", "c"}, {"a", "bc"}, texts(), make([]string, 127), make([]string, 128), make([]string, 16384)}
}

// Exact numbers for the definitions.
func exact(n int) *big.Int { return big.NewInt(int64(n)) }

// numberBytes is the definition of the bytes of a number.
func numberBytes(m *big.Int) string {
	rest, base := new(big.Int).Set(m), exact(128)
	s := ""
	for {
		group := new(big.Int)
		rest.DivMod(rest, base, group)
		if rest.Sign() == 0 {
			return s + string([]byte{byte(group.Int64())})
		}
		s += string([]byte{byte(group.Int64() + 128)})
	}
}

// numberOf is the definition of the encoding of an int that is written as a number.
func numberOf(n int) string { return numberBytes(exact(n)) }

// intOf is the definition of the encoding of an int.
func intOf(n int) string {
	m := new(big.Int).Mul(exact(2), exact(n))
	if n < 0 {
		m.Neg(m)
		m.Sub(m, exact(1))
	}
	return numberBytes(m)
}

// textOf is the definition of the encoding of a string.
func textOf(s string) string { return numberOf(len(s)) + s }

// listOf is the definition of the encoding of a list.
func listOf[T any](l []T, item func(T) string) string {
	parts := []string{numberOf(len(l))}
	for _, x := range l {
		parts = append(parts, item(x))
	}
	return strings.Join(parts, "")
}

// firstExact returns the number whose bytes s begins with, and how many bytes these are, or false if it begins with none: it tries all of them.
func firstExact(s string) (*big.Int, int, bool) {
	m := new(big.Int)
	for i := range len(s) {
		m.Add(m, new(big.Int).Lsh(exact(int(s[i]%128)), uint(7*i)))
		if s[i] < 128 {
			return m, i + 1, m.BitLen() <= 64 && numberBytes(m) == s[:i+1]
		}
	}
	return nil, 0, false
}

// firstNum, firstInt and firstText return the value whose encoding s begins with, and the length of the encoding, or false.
func firstNum(s string) (int, int, bool) {
	m, size, ok := firstExact(s)
	if !ok || !m.IsInt64() {
		return 0, 0, false
	}
	return int(m.Int64()), size, true
}

func firstInt(s string) (int, int, bool) {
	m, size, ok := firstExact(s)
	if !ok {
		return 0, 0, false
	}
	half, odd := new(big.Int).DivMod(m, exact(2), new(big.Int))
	if odd.Sign() != 0 {
		half.Neg(half)
		half.Sub(half, exact(1))
	}
	return int(half.Int64()), size, true
}

func firstText(s string) (string, int, bool) {
	m, size, ok := firstExact(s)
	if !ok || m.Cmp(exact(len(s)-size)) > 0 {
		return "", 0, false
	}
	end := size + int(m.Int64())
	return s[size:end], end, true
}

func firstList[T any](s string, item func(string) (T, int, bool)) ([]T, int, bool) {
	m, at, ok := firstExact(s)
	if !ok {
		return nil, 0, false
	}
	var l []T
	for i := new(big.Int); i.Cmp(m) < 0; i.Add(i, exact(1)) {
		x, size, ok := item(s[at:])
		if !ok {
			return nil, 0, false
		}
		l = append(l, x)
		at += size
	}
	return l, at, true
}

func firstNums(s string) ([]int, int, bool)     { return firstList(s, firstInt) }
func firstTexts(s string) ([]string, int, bool) { return firstList(s, firstText) }

func same[T comparable](a, b T) bool { return a == b }

// hasFailed reports whether r behaves like a failed reader, by every method.
func hasFailed(r *Reader) bool {
	for range 2 {
		if r.Left() != 0 || r.Done() || r.Num() != 0 || r.Int() != 0 || r.Text() != "" || len(r.Nums()) != 0 || len(r.Texts()) != 0 {
			return false
		}
	}
	return r.Left() == 0 && !r.Done()
}

// P2.1: encodings written out by hand.
func TestWriteInts(t *testing.T) {
	for _, x := range []struct {
		n        int
		num, int string
	}{
		{0, "\x00", "\x00"},
		{1, "\x01", "\x02"},
		{2, "\x02", "\x04"},
		{63, "\x3f", "\x7e"},
		{64, "\x40", "\x80\x01"},
		{127, "\x7f", "\xfe\x01"},
		{128, "\x80\x01", "\x80\x02"},
		{300, "\xac\x02", "\xd8\x04"},
		{8191, "\xff\x3f", "\xfe\x7f"},
		{8192, "\x80\x40", "\x80\x80\x01"},
		{16383, "\xff\x7f", "\xfe\xff\x01"},
		{16384, "\x80\x80\x01", "\x80\x80\x02"},
		{1 << 62, "\x80\x80\x80\x80\x80\x80\x80\x80\x40", "\x80\x80\x80\x80\x80\x80\x80\x80\x80\x01"},
		{math.MaxInt, "\xff\xff\xff\xff\xff\xff\xff\xff\x7f", "\xfe\xff\xff\xff\xff\xff\xff\xff\xff\x01"},
		{-1, "", "\x01"},
		{-2, "", "\x03"},
		{-64, "", "\x7f"},
		{-65, "", "\x81\x01"},
		{-8192, "", "\xff\x7f"},
		{-8193, "", "\x81\x80\x01"},
		{-300, "", "\xd7\x04"},
		{-1 << 62, "", "\xff\xff\xff\xff\xff\xff\xff\xff\x7f"},
		{math.MinInt + 1, "", "\xfd\xff\xff\xff\xff\xff\xff\xff\xff\x01"},
		{math.MinInt, "", "\xff\xff\xff\xff\xff\xff\xff\xff\xff\x01"},
	} {
		if s := Num(x.n); s != x.num {
			t.Errorf("Num(%d) = %x; want %x", x.n, s, x.num)
		}
		if s := Int(x.n); s != x.int {
			t.Errorf("Int(%d) = %x; want %x", x.n, s, x.int)
		}
	}
}

// P2.1: strings and lists written out by hand.
func TestWriteTextsAndLists(t *testing.T) {
	for _, x := range []struct{ got, want string }{
		{Text(""), "\x00"},
		{Text("\x00"), "\x01\x00"},
		{Text("a\x00b"), "\x03a\x00b"},
		{Text("\xff\x80"), "\x02\xff\x80"},
		{Text(strings.Repeat("z", 127)), "\x7f" + strings.Repeat("z", 127)},
		{Text(strings.Repeat("z", 128)), "\x80\x01" + strings.Repeat("z", 128)},
		{Nums(nil), "\x00"},
		{Nums([]int{}), "\x00"},
		{Nums([]int{0}), "\x01\x00"},
		{Nums([]int{1, -1}), "\x02\x02\x01"},
		{Nums([]int{64, -65, 0}), "\x03\x80\x01\x81\x01\x00"},
		{Nums(make([]int, 128)), "\x80\x01" + strings.Repeat("\x00", 128)},
		{Texts(nil), "\x00"},
		{Texts([]string{}), "\x00"},
		{Texts([]string{""}), "\x01\x00"},
		{Texts([]string{"", "x"}), "\x02\x00\x01x"},
		{Texts([]string{"x", ""}), "\x02\x01x\x00"},
		{Texts([]string{"a\x00b", "\xff"}), "\x02\x03a\x00b\x01\xff"},
		{Texts(make([]string, 128)), "\x80\x01" + strings.Repeat("\x00", 128)},
	} {
		if x.got != x.want {
			t.Errorf("%x; want %x", x.got, x.want)
		}
	}
}

// P2.1: every edge, string and list against the definitions.
func TestWriteByDefinition(t *testing.T) {
	for _, n := range edges() {
		want := ""
		if n >= 0 {
			want = numberOf(n)
		}
		if s := Num(n); s != want {
			t.Errorf("Num(%d) = %x; want %x", n, s, want)
		}
		if s := Int(n); s != intOf(n) {
			t.Errorf("Int(%d) = %x; want %x", n, s, intOf(n))
		}
	}
	for _, s := range texts() {
		if got := Text(s); got != textOf(s) {
			t.Errorf("Text(%.20q) = %.40x", s, got)
		}
	}
	for _, l := range intLists() {
		if got := Nums(l); got != listOf(l, intOf) {
			t.Errorf("Nums of %d ints: %.40x", len(l), got)
		}
	}
	for _, l := range textLists() {
		if got := Texts(l); got != listOf(l, textOf) {
			t.Errorf("Texts of %d strings: %.40x", len(l), got)
		}
	}
}

// P2.2: one reader for values of all kinds, with what is left after each of them.
func TestReadInOrder(t *testing.T) {
	r := Open("\xac\x02" + "\xd7\x04" + "\x03a\x00b" + "\x02\x02\x01" + "\x02\x01c\x00" + "\x00" + "\x00" + "\x00" + "\x00" + "\x00" + "x")
	left := func(n int) {
		t.Helper()
		if r.Left() != n || r.Done() {
			t.Errorf("left %d, done %v; want %d", r.Left(), r.Done(), n)
		}
	}
	left(21)
	if n := r.Num(); n != 300 {
		t.Error(n)
	}
	left(19)
	if n := r.Int(); n != -300 {
		t.Error(n)
	}
	left(17)
	if s := r.Text(); s != "a\x00b" {
		t.Errorf("%q", s)
	}
	left(13)
	if l := r.Nums(); !slices.Equal(l, []int{1, -1}) {
		t.Error(l)
	}
	left(10)
	if l := r.Texts(); !slices.Equal(l, []string{"c", ""}) {
		t.Errorf("%q", l)
	}
	left(6)
	if r.Num() != 0 || r.Int() != 0 || r.Text() != "" || len(r.Nums()) != 0 || len(r.Texts()) != 0 {
		t.Error("zeros")
	}
	left(1)
	if n := r.Int(); n != 60 || r.Left() != 0 || !r.Done() {
		t.Error(n, r.Left(), r.Done())
	}
	if n := r.Num(); n != 0 || !hasFailed(r) {
		t.Error("nothing is left, and yet a number was read")
	}
}

// P2.2: the beginning of the empty string is also its end, and nothing can be read there.
func TestReadEmpty(t *testing.T) {
	if r := Open(""); !r.Done() || r.Left() != 0 || !r.Done() {
		t.Error("the empty string has been read")
	}
	for name, read := range reads() {
		r := Open("")
		if read(r); !hasFailed(r) {
			t.Errorf("%s of the empty string does not fail", name)
		}
	}
}

// reads returns the methods that read; each reports whether the value is zero.
func reads() map[string]func(r *Reader) bool {
	return map[string]func(r *Reader) bool{
		"Num":   func(r *Reader) bool { return r.Num() == 0 },
		"Int":   func(r *Reader) bool { return r.Int() == 0 },
		"Text":  func(r *Reader) bool { return r.Text() == "" },
		"Nums":  func(r *Reader) bool { return len(r.Nums()) == 0 },
		"Texts": func(r *Reader) bool { return len(r.Texts()) == 0 },
	}
}

// P2.2: bytes that are no number fail every kind of value, at the beginning and behind another value.
func TestReadNoNumber(t *testing.T) {
	for _, s := range []string{
		"\x80", "\xff", "\x80\x80", strings.Repeat("\x80", 9), strings.Repeat("\xff", 9), strings.Repeat("\xff", 10), strings.Repeat("\x80", 40),
		// a last group 0 that is not the only one
		"\x80\x00", "\x81\x00", "\xff\x00", "\xff\x80\x00", "\xac\x82\x00",
		strings.Repeat("\x80", 8) + "\x00", strings.Repeat("\xff", 9) + "\x00", strings.Repeat("\xff", 9) + "\x80\x00", strings.Repeat("\x80", 30) + "\x00",
		// 2^64 or more
		strings.Repeat("\x80", 9) + "\x02", strings.Repeat("\xff", 9) + "\x02", strings.Repeat("\xff", 9) + "\x03", strings.Repeat("\xff", 9) + "\x7f", strings.Repeat("\x80", 9) + "\x40",
		strings.Repeat("\x80", 10) + "\x01", strings.Repeat("\xff", 9) + "\x81\x01", strings.Repeat("\x80", 63) + "\x01", strings.Repeat("\x80", 64) + "\x01", strings.Repeat("\x80", 128) + "\x01",
	} {
		for name, read := range reads() {
			if r := Open(s); !read(r) || !hasFailed(r) {
				t.Errorf("%s of %x does not fail", name, s)
			}
			// Bytes behind the number change nothing if it ends with its last group.
			if r := Open(s + "\x00\x00"); s[len(s)-1] < 128 && (!read(r) || !hasFailed(r)) {
				t.Errorf("%s of %x with more behind it does not fail", name, s)
			}
			if r := Open("\x05" + s); r.Num() != 5 || !read(r) || !hasFailed(r) {
				t.Errorf("%s of %x behind another value does not fail", name, s)
			}
		}
	}
}

// P2.2: numbers from 2^63 to 2^64 - 1 are ints, but not written as numbers, and no lengths.
func TestReadGreatNumbers(t *testing.T) {
	for _, x := range []struct {
		s string
		n int
	}{
		{"\x80\x80\x80\x80\x80\x80\x80\x80\x80\x01", 1 << 62},
		{"\x81\x80\x80\x80\x80\x80\x80\x80\x80\x01", -1<<62 - 1},
		{"\xfe\xff\xff\xff\xff\xff\xff\xff\xff\x01", math.MaxInt},
		{"\xff\xff\xff\xff\xff\xff\xff\xff\xff\x01", math.MinInt},
	} {
		if r := Open(x.s + "\x05"); r.Int() != x.n || r.Left() != 1 || r.Num() != 5 || !r.Done() {
			t.Errorf("Int of %x is not %d", x.s, x.n)
		}
		if r := Open("\x01" + x.s); !slices.Equal(r.Nums(), []int{x.n}) || !r.Done() {
			t.Errorf("Nums of %x is not %d", x.s, x.n)
		}
		for name, read := range reads() {
			if r := Open(x.s + "\x05"); name != "Int" && (!read(r) || !hasFailed(r)) {
				t.Errorf("%s of %x does not fail", name, x.s)
			}
		}
	}
	if r := Open("\xff\xff\xff\xff\xff\xff\xff\xff\x7f\x05"); r.Num() != math.MaxInt || r.Left() != 1 {
		t.Error("the greatest int that is written as a number")
	}
}

// P2.2: lengths that are longer than what is left, and lists that end within an element.
func TestReadTooLong(t *testing.T) {
	lengths := []string{"\x03", "\x7f", "\x80\x01", "\xff\xff\xff\xff\x07", "\x80\x80\x80\x80\x08", "\x80\x80\x80\x80\x10", "\x80\x80\x80\x80\x80\x80\x80\x80\x40", "\xff\xff\xff\xff\xff\xff\xff\xff\x7f", "\xff\xff\xff\xff\xff\xff\xff\xff\xff\x01"}
	for _, length := range lengths {
		for _, rest := range []string{"", "a", "\x00\x00", "ab"} {
			for _, name := range []string{"Text", "Nums", "Texts"} {
				if r := Open(length + rest); !reads()[name](r) || !hasFailed(r) {
					t.Errorf("%s of %x does not fail", name, length+rest)
				}
			}
		}
	}
	for _, s := range []string{"\x01\x80", "\x02\x05\x80", "\x03\x01\x02\x80", "\x02\x05\x80\x00", "\x03\x01\x80\x00\x02", "\x02\x01" + strings.Repeat("\xff", 9) + "\x02"} {
		if r := Open(s); len(r.Nums()) != 0 || !hasFailed(r) {
			t.Errorf("Nums of %x does not fail", s)
		}
	}
	for _, s := range []string{"\x01\x01", "\x02\x01a\x01", "\x02\x02ab\x02c", "\x03\x01a\x00\x80\x00", "\x02\x03abc\x80", "\x03\x01a\x7fbcdef\x00"} {
		if r := Open(s); len(r.Texts()) != 0 || !hasFailed(r) {
			t.Errorf("Texts of %x does not fail", s)
		}
	}
}

// P2.2: a reader that has failed does not recover, whatever came before, and however much was left.
func TestFailureLasts(t *testing.T) {
	for name, read := range reads() {
		r := Open("\x07\x80\x00\x05\x05\x05\x05")
		if r.Num() != 7 || !read(r) || !hasFailed(r) {
			t.Errorf("%s: the reader recovers", name)
		}
	}
	r := Open("\x09abc")
	if r.Left() != 4 || r.Text() != "" || r.Left() != 0 || r.Done() || r.Num() != 0 {
		t.Error("a text that is too long")
	}
}

// P2.2: every string of up to 5 bytes of an alphabet of edges, read by every method, against a search for the encoding.
func TestReadEveryShortString(t *testing.T) {
	const alphabet = "\x00\x01\x02\x03\x7f\x80\x81\xff"
	all := []string{""}
	for from := 0; len(all[from]) < 5; from++ {
		for i := range len(alphabet) {
			all = append(all, all[from]+alphabet[i:i+1])
		}
	}
	for _, s := range all {
		checkRead(t, s, "Num", (*Reader).Num, firstNum, same[int])
		checkRead(t, s, "Int", (*Reader).Int, firstInt, same[int])
		checkRead(t, s, "Text", (*Reader).Text, firstText, same[string])
		checkRead(t, s, "Nums", (*Reader).Nums, firstNums, slices.Equal[[]int])
		checkRead(t, s, "Texts", (*Reader).Texts, firstTexts, slices.Equal[[]string])
	}
}

// P2.2: every string of 5 to 8 equal bytes followed by 3 edges, read as an int and as a number.
func TestReadEveryLongNumber(t *testing.T) {
	ends := []byte{0, 1, 2, 3, 0x3f, 0x40, 0x7f, 0x80, 0x81, 0x82, 0xc0, 0xff}
	for _, fill := range []string{"\x80", "\xff", "\xaa"} {
		for length := 5; length <= 8; length++ {
			for _, a := range ends {
				for _, b := range ends {
					for _, c := range ends {
						s := strings.Repeat(fill, length) + string([]byte{a, b, c})
						checkRead(t, s, "Num", (*Reader).Num, firstNum, same[int])
						checkRead(t, s, "Int", (*Reader).Int, firstInt, same[int])
					}
				}
			}
		}
	}
}

// checkRead compares one reading of s with the value that first finds.
func checkRead[T any](t *testing.T, s, name string, read func(*Reader) T, first func(string) (T, int, bool), equal func(a, b T) bool) {
	t.Helper()
	r := Open(s)
	got := read(r)
	want, size, ok := first(s)
	if !equal(got, want) {
		t.Fatalf("%s of %x = %v; want %v", name, s, got, want)
	}
	if !ok {
		if !hasFailed(r) {
			t.Fatalf("%s of %x does not fail", name, s)
		}
		return
	}
	if r.Left() != len(s)-size || r.Done() != (size == len(s)) {
		t.Fatalf("%s of %x: left %d, done %v; want %d", name, s, r.Left(), r.Done(), len(s)-size)
	}
}

// P2.3: lists that are written are not modified, neither their elements nor what lies beyond them.
func TestArgumentsUnmodified(t *testing.T) {
	ints := []int{7, -8, 300, 9, math.MinInt}
	if s := Nums(ints[1:3]); s != "\x02\x0f\xd8\x04" {
		t.Errorf("%x", s)
	}
	if !slices.Equal(ints, []int{7, -8, 300, 9, math.MinInt}) {
		t.Error(ints)
	}
	strs := []string{"a", "bc", "", "d", "e"}
	if s := Texts(strs[1:3]); s != "\x02\x02bc\x00" {
		t.Errorf("%x", s)
	}
	if !slices.Equal(strs, []string{"a", "bc", "", "d", "e"}) {
		t.Errorf("%q", strs)
	}
}

// P2.3: an encoding does not change with the list that it was made of.
func TestArgumentsNotRetained(t *testing.T) {
	ints, strs := []int{1, 2, 3}, []string{"a", "b"}
	a, b := Nums(ints), Texts(strs)
	ints[0], ints[2], strs[1] = 9, 9, "z"
	if a != "\x03\x02\x04\x06" || b != "\x02\x01a\x01b" {
		t.Errorf("%x, %x", a, b)
	}
	if Nums(ints) != "\x03\x12\x04\x12" || Texts(strs) != "\x02\x01a\x01z" {
		t.Error("the second encoding")
	}
}

// P2.3: lists that are read share no memory, with one reader and with two readers of one string; also beyond their lengths.
func TestResultsAreFresh(t *testing.T) {
	s := Nums([]int{1, 2, 3}) + Nums([]int{4, 5, 6}) + Texts([]string{"a", "b", "c"}) + Texts([]string{"d", "e", "f"})
	r, q := Open(s), Open(s)
	a, b, c := r.Nums(), r.Nums(), q.Nums()
	for i := range a[:cap(a)] {
		a[:cap(a)][i] = 99
	}
	if !slices.Equal(b, []int{4, 5, 6}) || !slices.Equal(c, []int{1, 2, 3}) || !slices.Equal(q.Nums(), []int{4, 5, 6}) {
		t.Error(b, c)
	}
	d, e, f := r.Texts(), r.Texts(), q.Texts()
	for i := range d[:cap(d)] {
		d[:cap(d)][i] = "changed"
	}
	if !slices.Equal(e, []string{"d", "e", "f"}) || !slices.Equal(f, []string{"a", "b", "c"}) || !slices.Equal(q.Texts(), []string{"d", "e", "f"}) {
		t.Errorf("%q, %q", e, f)
	}
	if !r.Done() || !q.Done() {
		t.Error("not done")
	}
}

// P2.2, P2.3: readers of one string do not move each other, and a failure is the failure of one of them.
func TestReadersAreIndependent(t *testing.T) {
	const s = "\x01\x80\x00"
	r, q := Open(s), Open(s)
	if r.Num() != 1 || q.Left() != 3 || r.Num() != 0 || !hasFailed(r) {
		t.Error("the first reader")
	}
	if q.Left() != 3 || q.Num() != 1 || q.Left() != 2 || q.Done() {
		t.Error("the second reader")
	}
}

// checkInverse writes a value, reads it back, alone and with bytes behind it, and checks every shorter part.
func checkInverse[T any](t *testing.T, x T, write func(T) string, read func(*Reader) T, equal func(a, b T) bool) {
	t.Helper()
	s := write(x)
	for _, more := range []string{"", "\x00", "\x01", "\x80", "\xff\xff"} {
		r := Open(s + more)
		if got := read(r); !equal(got, x) || r.Left() != len(more) || r.Done() != (more == "") {
			t.Fatalf("%.40v, written as %.40x, is read as %.40v; left %d", x, s, got, r.Left())
		}
	}
	for i := range min(len(s), 200) {
		r := Open(s[:i])
		if read(r); !hasFailed(r) {
			t.Fatalf("%d bytes of %.40x are read", i, s)
		}
	}
}

// P2.4: reading inverts writing, and no encoding can be read that lacks an end.
func TestReadingInvertsWriting(t *testing.T) {
	for _, n := range edges() {
		if n >= 0 {
			checkInverse(t, n, Num, (*Reader).Num, same[int])
		}
		checkInverse(t, n, Int, (*Reader).Int, same[int])
	}
	for _, s := range texts() {
		checkInverse(t, s, Text, (*Reader).Text, same[string])
	}
	for _, l := range intLists() {
		checkInverse(t, l, Nums, (*Reader).Nums, slices.Equal[[]int])
	}
	for _, l := range textLists() {
		checkInverse(t, l, Texts, (*Reader).Texts, slices.Equal[[]string])
	}
}

// rewrites reports whether the value that is read from s is written as the bytes that were read, or nothing was read.
func rewrites[T any](s string, read func(*Reader) T, write func(T) string) bool {
	r := Open(s)
	x := read(r)
	size := len(s) - r.Left()
	return write(x) == s[:size] || hasFailed(r)
}

// P2.4: what is read has exactly the bytes that were read as its encoding, for all strings of a long walk through edges.
func TestOneEncoding(t *testing.T) {
	bytes := []byte{0, 1, 2, 3, 0x7f, 0x80, 0x81, 0xff}
	state, failed := uint64(1), 0
	for range 100000 {
		var b []byte
		for range 14 {
			state = state*6364136223846793005 + 1442695040888963407
			b = append(b, bytes[state>>61])
		}
		s := string(b)
		if !rewrites(s, (*Reader).Num, Num) || !rewrites(s, (*Reader).Int, Int) || !rewrites(s, (*Reader).Text, Text) || !rewrites(s, (*Reader).Nums, Nums) || !rewrites(s, (*Reader).Texts, Texts) {
			t.Fatalf("%x is read, but written in another way", s)
		}
		r := Open(s)
		if r.Nums(); hasFailed(r) {
			failed++
		}
	}
	if failed == 0 || failed == 100000 {
		t.Error("the walk does not reach both cases")
	}
}

// checkPrefixes checks that the encodings of different values are different, and that none begins with another one: sorted, it would follow it.
func checkPrefixes[T any](t *testing.T, name string, values []T, write func(T) string) {
	t.Helper()
	var l []string
	for _, x := range values {
		l = append(l, write(x))
	}
	slices.Sort(l)
	for i := 1; i < len(l); i++ {
		if strings.HasPrefix(l[i], l[i-1]) {
			t.Errorf("%s: %.40x begins with %.40x", name, l[i], l[i-1])
		}
	}
}

// P2.4: no encoding is a prefix of the encoding of another value of the same kind.
func TestNoPrefixes(t *testing.T) {
	ints := edges()
	for n := range 20000 {
		ints = append(ints, n, -n)
	}
	slices.Sort(ints)
	ints = slices.Compact(ints)
	checkPrefixes(t, "Int", ints, Int)
	checkPrefixes(t, "Num", slices.DeleteFunc(slices.Clone(ints), func(n int) bool { return n < 0 }), Num)
	checkPrefixes(t, "Text", texts(), Text)
	checkPrefixes(t, "Nums", intLists(), Nums)
	checkPrefixes(t, "Texts", textLists(), Texts)
}

// P2.5: an int that is written as a number has one byte for every 7 bits, at least one.
func TestLengths(t *testing.T) {
	for _, n := range edges() {
		if n < 0 {
			continue
		}
		want := max(1, (exact(n).BitLen()+6)/7)
		if got := len(Num(n)); got != want {
			t.Errorf("Num(%d) has %d bytes; want %d", n, got, want)
		}
	}
	for _, x := range []struct{ n, want int }{{0, 1}, {1, 1}, {127, 1}, {128, 2}, {16383, 2}, {16384, 3}, {1<<21 - 1, 3}, {1 << 21, 4}, {1<<28 - 1, 4}, {1 << 28, 5}, {1<<35 - 1, 5}, {1 << 35, 6}, {1<<42 - 1, 6}, {1 << 42, 7}, {1<<49 - 1, 7}, {1 << 49, 8}, {1<<56 - 1, 8}, {1 << 56, 9}, {math.MaxInt, 9}} {
		if got := len(Num(x.n)); got != x.want {
			t.Errorf("Num(%d) has %d bytes; want %d", x.n, got, x.want)
		}
	}
}
