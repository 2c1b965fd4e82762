package word

import (
	"math"
	"math/big"
	"strings"
	"testing"

	"linchpin/api"
)

var sizes = []int{1, 2, 4, 8}

// edges returns the numbers at which a size or a number of bits ends, and their neighbours.
func edges() []int {
	l := []int{0, 1, -1, 77, -77, 0x1234, 0x123456789abcdef0, -0x123456789abcdef0, math.MaxInt, math.MaxInt - 1, math.MinInt, math.MinInt + 1}
	for i := range 63 {
		for d := -1; d <= 1; d++ {
			l = append(l, 1<<i+d, -1<<i+d)
		}
	}
	return l
}

// power returns 2^n exactly.
func power(n int) *big.Int { return new(big.Int).Lsh(big.NewInt(1), uint(n)) }

// within reports whether low <= n < high.
func within(n int, low, high *big.Int) bool {
	b := big.NewInt(int64(n))
	return low.Cmp(b) <= 0 && b.Cmp(high) < 0
}

// fits is P1.3 with exact numbers.
func fits(n, bits int, signed bool) bool {
	if bits < 1 || bits > 64 {
		return false
	}
	if signed {
		half := power(bits - 1)
		return within(n, new(big.Int).Neg(half), half)
	}
	return within(n, new(big.Int), power(bits))
}

// value is the definition of the value of a field that has these bytes, with exact numbers.
func value(field string, signed bool) int {
	n := new(big.Int)
	for i := len(field) - 1; i >= 0; i-- {
		n.Lsh(n, 8)
		n.Add(n, big.NewInt(int64(field[i])))
	}
	bits := 8 * len(field)
	if (signed || bits == 64) && n.Cmp(power(bits-1)) >= 0 {
		n.Sub(n, power(bits))
	}
	return int(n.Int64())
}

// fieldOf returns the bytes of n modulo 256^size.
func fieldOf(n, size int) string {
	b := new(big.Int).Mod(big.NewInt(int64(n)), power(8*size)).FillBytes(make([]byte, size))
	s := ""
	for _, c := range b {
		s = string([]byte{c}) + s
	}
	return s
}

// P1.1: values written out by hand.
func TestGetTable(t *testing.T) {
	for _, x := range []struct {
		s        string
		at, size int
		signed   bool
		want     int
	}{
		{"\x01\x02\xff", 1, 2, false, 65282},
		{"\x01\x02\xff", 1, 2, true, -254},
		{"\x01\x02\xff", 0, 1, true, 1},
		{"\x01\x02\xff", 2, 1, false, 255},
		{"\x01\x02\xff", 2, 1, true, -1},
		{"\x7f", 0, 1, true, 127},
		{"\x80", 0, 1, true, -128},
		{"\x80", 0, 1, false, 128},
		{"\xff\x7f", 0, 2, true, 32767},
		{"\x00\x80", 0, 2, true, -32768},
		{"\x00\x80", 0, 2, false, 32768},
		{"\xff\xff", 0, 2, false, 65535},
		{"\xff\xff\xff\x7f", 0, 4, true, math.MaxInt32},
		{"\x00\x00\x00\x80", 0, 4, true, math.MinInt32},
		{"\x00\x00\x00\x80", 0, 4, false, 1 << 31},
		{"\xff\xff\xff\xff", 0, 4, false, math.MaxUint32},
		{"\xff\xff\xff\xff\xff\xff\xff\x7f", 0, 8, true, math.MaxInt},
		{"\x00\x00\x00\x00\x00\x00\x00\x80", 0, 8, true, math.MinInt},
		{"\x00\x00\x00\x00\x00\x00\x00\x80", 0, 8, false, math.MinInt},
		{"\xff\xff\xff\xff\xff\xff\xff\xff", 0, 8, false, -1},
		{"\x00\x00\x00\x00\x00\x00\x00\x00", 0, 8, false, 0},
	} {
		if n, ok := Get(x.s, x.at, x.size, x.signed); n != x.want || !ok {
			t.Errorf("Get(%q, %d, %d, %v) = %d, %v; want %d", x.s, x.at, x.size, x.signed, n, ok, x.want)
		}
	}
}

// P1.1: every field of a string, and every offset and size near it, against the definition.
func TestGetEveryField(t *testing.T) {
	const long = "\x00\x01\x80\xff\x7f\x10\xfe\x00\x81\xc3\x3c\xff\xff\x80"
	for length := range len(long) + 1 {
		s := long[:length]
		for at := -10; at <= length+10; at++ {
			for size := -9; size <= 17; size++ {
				for _, signed := range []bool{false, true} {
					n, ok := Get(s, at, size, signed)
					want, exists := 0, strings.Contains(" 1 2 4 8 ", " "+big.NewInt(int64(size)).String()+" ") && at >= 0 && at+size <= length
					if exists {
						want = value(s[at:at+size], signed)
					}
					if n != want || ok != exists {
						t.Fatalf("Get(%q, %d, %d, %v) = %d, %v; want %d, %v", s, at, size, signed, n, ok, want, exists)
					}
				}
			}
		}
	}
}

// P1.1, P1.2: offsets and sizes for which at + size or len(s) - size wraps around.
func TestFarFields(t *testing.T) {
	far := []int{math.MinInt, math.MinInt + 1, math.MinInt + 8, -1 << 32, 1 << 32, math.MaxInt - 8, math.MaxInt - 7, math.MaxInt}
	s := strings.Repeat("\xff", 16)
	for _, x := range far {
		for _, size := range sizes {
			if n, ok := Get(s, x, size, true); n != 0 || ok {
				t.Errorf("Get at %d, size %d: %d, %v", x, size, n, ok)
			}
			if r, ok := Put(s, x, size, 1); r != "" || ok {
				t.Errorf("Put at %d, size %d: %q, %v", x, size, r, ok)
			}
		}
		for _, at := range append(far, -1, 0, 1, 16) {
			if n, ok := Get(s, at, x, false); n != 0 || ok {
				t.Errorf("Get at %d, size %d: %d, %v", at, x, n, ok)
			}
			if r, ok := Put(s, at, x, 1); r != "" || ok {
				t.Errorf("Put at %d, size %d: %q, %v", at, x, r, ok)
			}
		}
	}
}

// P1.2: results written out by hand, among them the least and the greatest number of each size.
func TestPutTable(t *testing.T) {
	for _, x := range []struct {
		at, size, n int
		want        string
		ok          bool
	}{
		{1, 1, -1, "a\xffcdefghi", true},
		{0, 1, 'z', "zbcdefghi", true},
		{8, 1, 'z', "abcdefghz", true},
		{9, 1, 'z', "", false},
		{-1, 1, 'z', "", false},
		{0, 1, -128, "\x80bcdefghi", true},
		{0, 1, -129, "", false},
		{0, 1, 255, "\xffbcdefghi", true},
		{0, 1, 256, "", false},
		{7, 2, 0x1234, "abcdefg\x34\x12", true},
		{8, 2, 0x1234, "", false},
		{0, 2, -32768, "\x00\x80cdefghi", true},
		{0, 2, -32769, "", false},
		{0, 2, 65535, "\xff\xffcdefghi", true},
		{0, 2, 65536, "", false},
		{5, 4, 0x01020304, "abcde\x04\x03\x02\x01", true},
		{6, 4, 1, "", false},
		{0, 4, math.MinInt32, "\x00\x00\x00\x80efghi", true},
		{0, 4, math.MinInt32 - 1, "", false},
		{0, 4, math.MaxUint32, "\xff\xff\xff\xffefghi", true},
		{0, 4, math.MaxUint32 + 1, "", false},
		{1, 8, 0x0102030405060708, "a\x08\x07\x06\x05\x04\x03\x02\x01", true},
		{2, 8, 1, "", false},
		{0, 8, math.MinInt, "\x00\x00\x00\x00\x00\x00\x00\x80i", true},
		{0, 8, math.MaxInt, "\xff\xff\xff\xff\xff\xff\xff\x7fi", true},
		{0, 8, -1, "\xff\xff\xff\xff\xff\xff\xff\xffi", true},
		{0, 0, 0, "", false},
		{0, 3, 0, "", false},
		{0, 5, 0, "", false},
		{0, 6, 0, "", false},
		{0, 7, 0, "", false},
		{0, 9, 0, "", false},
		{0, -1, 0, "", false},
		{0, 1, math.MinInt, "", false},
		{0, 4, math.MaxInt, "", false},
	} {
		if s, ok := Put("abcdefghi", x.at, x.size, x.n); s != x.want || ok != x.ok {
			t.Errorf("Put at %d, size %d, number %d: %q, %v; want %q, %v", x.at, x.size, x.n, s, ok, x.want, x.ok)
		}
	}
	if s, ok := Put("\x01\x02\x03", 1, 1, -1); s != "\x01\xff\x03" || !ok {
		t.Errorf("the example: %q, %v", s, ok)
	}
	if s, ok := Put("", 0, 1, 0); s != "" || ok {
		t.Errorf("the empty string: %q, %v", s, ok)
	}
}

// P1.2: every offset and size with every edge, against the definition.
func TestPutEveryField(t *testing.T) {
	const s = "\x00\x01\x80\xff\x7f\x10\xfe\x00\x81\xc3\x3c"
	for _, size := range sizes {
		for at := -2; at <= len(s)+2; at++ {
			for _, n := range edges() {
				exists := at >= 0 && at+size <= len(s)
				ok := exists && (size == 8 || within(n, new(big.Int).Neg(power(8*size-1)), power(8*size)))
				want := ""
				if ok {
					want = s[:at] + fieldOf(n, size) + s[at+size:]
				}
				if r, done := Put(s, at, size, n); r != want || done != ok {
					t.Fatalf("Put at %d, size %d, number %d: %q, %v; want %q, %v", at, size, n, r, done, want, ok)
				}
			}
		}
	}
}

// P1.3: all numbers of bits and all edges, against the definition.
func TestFitsEveryNumberOfBits(t *testing.T) {
	bits := []int{math.MinInt, math.MaxInt, 1 << 32, -1 << 32, 128, 256}
	for i := -66; i <= 66; i++ {
		bits = append(bits, i)
	}
	for _, b := range bits {
		for _, n := range edges() {
			for _, signed := range []bool{false, true} {
				if got := Fits(n, b, signed); got != fits(n, b, signed) {
					t.Errorf("Fits(%d, %d, %v) = %v", n, b, signed, got)
				}
			}
		}
	}
}

// P1.3: results written out by hand.
func TestFitsTable(t *testing.T) {
	for _, x := range []struct {
		n, bits      int
		signed, want bool
	}{
		{0, 1, true, true}, {-1, 1, true, true}, {1, 1, true, false}, {-2, 1, true, false},
		{0, 1, false, true}, {1, 1, false, true}, {2, 1, false, false}, {-1, 1, false, false},
		{127, 8, true, true}, {128, 8, true, false}, {-128, 8, true, true}, {-129, 8, true, false},
		{255, 8, false, true}, {256, 8, false, false},
		{math.MaxInt, 63, false, true}, {math.MaxInt, 62, false, false}, {math.MaxInt, 63, true, false}, {math.MinInt, 63, true, false},
		{math.MaxInt, 64, true, true}, {math.MinInt, 64, true, true}, {math.MaxInt, 64, false, true}, {-1, 64, false, false}, {math.MinInt, 64, false, false},
		{0, 0, true, false}, {0, 0, false, false}, {0, -1, true, false}, {0, 65, true, false}, {0, 65, false, false},
	} {
		if Fits(x.n, x.bits, x.signed) != x.want {
			t.Errorf("Fits(%d, %d, %v) is not %v", x.n, x.bits, x.signed, x.want)
		}
	}
}

// P1.4: results written out by hand, among them both bounds and the numbers just outside.
func TestRoundingTable(t *testing.T) {
	for _, x := range []struct{ n, to, up, down int }{
		{5, 8, 8, 0}, {-5, 8, 0, -8}, {16, 8, 16, 16}, {-16, 8, -16, -16}, {0, 8, 0, 0}, {17, 8, 24, 16}, {-17, 8, -16, -24},
		{7, 1, 7, 7}, {-7, 1, -7, -7}, {10, 3, 12, 9}, {-10, 3, -9, -12},
		{7, 0, 7, 7}, {7, -1, 7, 7}, {7, -8, 7, 7}, {7, math.MinInt, 7, 7}, {7, math.MaxInt, 7, 7},
		{1, 1 << 40, 1 << 40, 0}, {-1, 1 << 40, 0, -1 << 40}, {1, 1<<40 - 1, 1<<40 - 1, 0}, {1, 1<<40 + 1, 1, 1}, {-1, 1<<40 + 1, -1, -1},
		{1 << 60, 7, 1<<60 + 6, 1<<60 - 1}, {-1 << 60, 7, -1<<60 + 1, -1<<60 - 6},
		{1<<60 - 1, 8, 1 << 60, 1<<60 - 8}, {-1<<60 + 1, 8, -1<<60 + 8, -1 << 60},
		{1<<60 + 1, 8, 1<<60 + 1, 1<<60 + 1}, {-1<<60 - 1, 8, -1<<60 - 1, -1<<60 - 1},
		{1 << 60, 1 << 40, 1 << 60, 1 << 60}, {-1 << 60, 1 << 40, -1 << 60, -1 << 60},
		{1 << 60, 1<<40 - 1, 1<<60 + 1<<40 - 1 - 1<<20, 1<<60 - 1<<20},
		{math.MaxInt, 8, math.MaxInt, math.MaxInt}, {math.MinInt, 3, math.MinInt, math.MinInt}, {math.MinInt + 1, 3, math.MinInt + 1, math.MinInt + 1},
	} {
		if up, down := Up(x.n, x.to), Down(x.n, x.to); up != x.up || down != x.down {
			t.Errorf("%d to %d: up %d, down %d; want %d, %d", x.n, x.to, up, down, x.up, x.down)
		}
	}
}

// P1.4: small numbers, against a search for the nearest multiples.
func TestRoundingSearch(t *testing.T) {
	for to := 1; to <= 40; to++ {
		for n := -130; n <= 130; n++ {
			up, down := n, n
			for up%to != 0 {
				up++
			}
			for down%to != 0 {
				down--
			}
			if Up(n, to) != up || Down(n, to) != down {
				t.Errorf("%d to %d: up %d, down %d; want %d, %d", n, to, Up(n, to), Down(n, to), up, down)
			}
		}
	}
}

// P1.4: Power, for every number near an alignment and for numbers far away.
func TestPower(t *testing.T) {
	powers := map[int]bool{1: true, 2: true, 4: true, 8: true, 16: true, 32: true, 64: true, 128: true, api.MaxAlign: true}
	for n := -600; n <= 1200; n++ {
		if Power(n) != powers[n] {
			t.Errorf("Power(%d) = %v", n, Power(n))
		}
	}
	for _, n := range []int{math.MinInt, math.MinInt + 1, math.MaxInt, 1 << 32, 1 << 40, 1 << 62, 1<<40 + 1} {
		if Power(n) {
			t.Errorf("Power(%d)", n)
		}
	}
}

// P1.5: Get inverts Put.
func TestGetInvertsPut(t *testing.T) {
	const s = "\x00\xff\x80\x7f\x01\xfe\x55\xaa\x10\xef\x00"
	for _, size := range sizes {
		for at := 0; at+size <= len(s); at++ {
			for _, n := range edges() {
				r, ok := Put(s, at, size, n)
				if !ok {
					continue
				}
				if got, ok := Get(r, at, size, n < 0); got != n || !ok {
					t.Fatalf("at %d, size %d: put %d, got %d, %v", at, size, n, got, ok)
				}
			}
		}
	}
}

// P1.5: Put of what Get returns changes nothing.
func TestPutOfGet(t *testing.T) {
	const s = "\x00\xff\x80\x7f\x01\xfe\x55\xaa\x10\xef\xff\xff\xff\xff\xff\xff\xff\xff\x00\x00\x00\x00\x00\x00\x00\x80"
	for _, size := range sizes {
		for at := 0; at+size <= len(s); at++ {
			for _, signed := range []bool{false, true} {
				n, ok := Get(s, at, size, signed)
				if !ok {
					t.Fatalf("no field at %d, size %d", at, size)
				}
				if r, ok := Put(s, at, size, n); r != s || !ok {
					t.Fatalf("at %d, size %d: got %d, put %q, %v", at, size, n, r, ok)
				}
			}
		}
	}
}
