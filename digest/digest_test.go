package digest

import (
	"crypto/sha3"
	"hash/crc32"
	"math/bits"
	"strings"
	"sync"
	"testing"
)

// residue is the Crc of a string that ends with its own Crc.
const residue = 1214729159

// bytesFrom returns the bytes from low to high, or down from low to high if low is greater.
func bytesFrom(low, high int) string {
	step := 1
	if low > high {
		step = -1
	}
	b := []byte{byte(low)}
	for low != high {
		low += step
		b = append(b, byte(low))
	}
	return string(b)
}

// walk returns a string of so many bytes that look random; each seed has its own.
func walk(length, seed int) string {
	state := uint64(seed)*0x9e3779b97f4a7c15 + uint64(length)
	b := make([]byte, length)
	for i := range b {
		state = state*6364136223846793005 + 1442695040888963407
		b[i] = byte(state >> 56)
	}
	return string(b)
}

// xor returns the bytewise exclusive or of strings of the same length.
func xor(s string, others ...string) string {
	b := []byte(s)
	for _, other := range others {
		for i := range b {
			b[i] ^= other[i]
		}
	}
	return string(b)
}

// flip returns s with one bit changed; the bits of a byte are counted from the least significant one on.
func flip(s string, bit int) string {
	b := []byte(s)
	b[bit/8] ^= 1 << (bit % 8)
	return string(b)
}

// lengths returns all lengths up to four blocks, and those next to the multiples of some more.
func lengths() []int {
	var l []int
	for n := range 4*136 + 2 {
		l = append(l, n)
	}
	for blocks := 5; blocks <= 40; blocks += 5 {
		for d := -2; d <= 2; d++ {
			l = append(l, 136*blocks+d)
		}
	}
	return append(l, 65536, 65537)
}

// samples returns strings with every byte value, with the bytes that end a block at its end, and of all lengths.
func samples() []string {
	var l []string
	for c := range 256 {
		l = append(l, string([]byte{byte(c)}))
	}
	for _, c := range []string{"\x00", "\x01", "\x06", "\x80", "\x86", "\xff"} {
		for _, n := range []int{2, 7, 8, 9, 134, 135, 136, 137, 270, 271, 272, 273} {
			l = append(l, strings.Repeat(c, n), strings.Repeat("\x00", n-1)+c, c+strings.Repeat("\x00", n-1), walk(n-1, 2)+c)
		}
	}
	for i, n := range lengths() {
		l = append(l, walk(n, i))
	}
	return l
}

// sumOf is the digest by the standard library.
func sumOf(s string) string {
	b := sha3.Sum256([]byte(s))
	return string(b[:])
}

// shortOf is the definition of Short, digit by digit.
func shortOf(s string) int {
	n := 0
	for _, digit := range Hex(sumOf(s)[:8])[:15] {
		n = 16*n + strings.IndexRune("0123456789abcdef", digit)
	}
	return n
}

// P3.1: digests written out: published ones, and strings that end where a block ends, or as the padding does.
func TestSumTable(t *testing.T) {
	zeros := func(n int) string { return strings.Repeat("\x00", n) }
	for _, x := range []struct{ s, want string }{
		{"", "a7ffc6f8bf1ed76651c14756a061d662f580ff4de43b49fa82d80a4b80f8434a"},
		{"abc", "3a985da74fe225b2045c172d6bd390bd855f086e3e9d525b46bfe24511431532"},
		{"abcdbcdecdefdefgefghfghighijhijkijkljklmklmnlmnomnopnopq", "41c0dba2a9d6240849100376a8235e2c82e1b9998a999e21db32dd97496d3376"},
		{"abcdefghbcdefghicdefghijdefghijkefghijklfghijklmghijklmnhijklmnoijklmnopjklmnopqklmnopqrlmnopqrsmnopqrstnopqrstu", "916f6061fe879741ca6469b43971dfdb28b1a32dc36cb3254e812be27aad1d18"},
		{strings.Repeat("\xa3", 200), "79f38adec5c20307a98ef76e8324afbfd46cfd81b22e3973c65fa1bd9de31787"},
		{strings.Repeat("a", 1000000), "5c8875ae474a3634ba4fd55ec85bffd661f32aca75c6d699d0cdcb6c115891c1"},
		{bytesFrom(0, 255), "9b04c091da96b997afb8f2585d608aebe9c4a904f7d52c8f28c7e4d2dd9fba5f"},
		{"\x00", "5d53469f20fef4f8eab52b88044ede69c77a6a68a60728609fc4a65ff531e7d0"},
		{"\x06", "5a3442340ee31fa728f182f7dbaef4825025f40378061428bcc9f859aa4c294a"},
		{"\x80", "bc2071a4de846f285702447f2589dd163678e0972a8a1b0d28b04ed5c094547f"},
		{"\x86", "0be80db4b14a34665ffe21c8fb9612a51db20f8fa4e7d5bca5f0df064580bc5b"},
		{zeros(134), "bb551c88fba60f9c030762fe75c16dbd589d690f00834374fec4556ec01064d1"},
		{zeros(135), "7d080d7ba978a75c8a7d1f9be566c859084509c9c2b4928435c225d5777d98e3"},
		{zeros(136), "e772c9cf9eb9c991cdfcf125001b454fdbc0a95f188d1b4c844aa032ad6e075e"},
		{zeros(137), "9ed57188470a83b758cd71c00c6cc3beb984b36a6c35864b4e53017b24cf5699"},
		{zeros(271), "d320e3e392e000b3ce18050d143f8fd8dd655d5c80a724a1e1be28f083a35ebc"},
		{zeros(272), "5d86a8cc4aa8f0d98146a747281865a625a19f9580eef32e38905920bc532c5c"},
		{zeros(273), "5544927e15075465bee9d4050eede9c3ec54928083ef2041d0fd44a55912ab65"},
		{zeros(134) + "\x06", "c08cf4bab45167d547f41da9898d05e53c505e5d73f83475c97ed18f700cd566"},
		{zeros(135) + "\x06", "5675799634a6a2554d85eaefb6a0c26fb763a36d52a30b97482759b25e593a32"},
		{zeros(135) + "\x86", "3c3f87fc89a8871f35d4b35ac67414cfb12131434329fa245569105b14837d3c"},
	} {
		if got := Hex(Sum(x.s)); got != x.want {
			t.Errorf("Sum of %d bytes %.20q = %s; want %s", len(x.s), x.s, got, x.want)
		}
	}
}

// P3.1: the samples against the standard library; a digest has 32 bytes, and no two are the same.
func TestSum(t *testing.T) {
	seen := map[string]string{}
	for _, s := range samples() {
		got := Sum(s)
		if got != sumOf(s) || len(got) != 32 {
			t.Errorf("Sum of %d bytes %.20q = %x; want %x", len(s), s, got, sumOf(s))
		}
		if other, ok := seen[got]; ok && other != s {
			t.Errorf("%.20q and %.20q have the same digest", s, other)
		}
		seen[got] = s
	}
}

// P3.2: numbers written out, with great and small first digits.
func TestShortTable(t *testing.T) {
	for _, x := range []struct {
		s    string
		want int
	}{
		{"", 756600818440990070},
		{"abc", 263889226490061403},
		{strings.Repeat("\xff", 408), 1145814037540302525}, // its digest begins with fe
		{"\x86", 53621924920861510},                        // its digest begins with 0b
		{strings.Repeat("\x00", 134), 843670427048501497},
		{strings.Repeat("\x00", 135), 563091617458129525},
		{strings.Repeat("\x00", 136), 1042350891479047321},
	} {
		if got := Short(x.s); got != x.want {
			t.Errorf("Short of %d bytes %.20q = %d; want %d", len(x.s), x.s, got, x.want)
		}
	}
}

// P3.2: the samples against the first 15 digits; all numbers have at most 60 bits, and each bit is used.
func TestShort(t *testing.T) {
	some, all := 0, 1<<60-1
	for _, s := range samples() {
		n := Short(s)
		if n != shortOf(s) || n < 0 || n > 1<<60-1 {
			t.Errorf("Short of %d bytes %.20q = %d; want %d", len(s), s, n, shortOf(s))
		}
		some, all = some|n, all&n
	}
	if some != 1<<60-1 || all != 0 {
		t.Errorf("bits that are always 0: %x, always 1: %x", 1<<60-1-some, all)
	}
}

// P3.3: numbers written out, among them published ones.
func TestCrcTable(t *testing.T) {
	for _, x := range []struct {
		s    string
		want int
	}{
		{"", 0},
		{"\x00", 1383945041},
		{"\x01", 2685849682},
		{"\x80", 3498797097},
		{"\xff", 4278190080},
		{"a", 3251651376},
		{"A", 3782069742},
		{"\x00a", 1657563059},
		{"a\x00", 1650444963},
		{"abc", 910901175},
		{"123456789", 3808858755},
		{"\x00\x00\x00\x00", 1214729159},
		{"\xff\xff\xff\xff", 4294967295},
		{strings.Repeat("\x00", 32), 2324772522},
		{strings.Repeat("\xff", 32), 1655221059},
		{bytesFrom(0, 31), 1188919630},
		{bytesFrom(31, 0), 289397596},
		{bytesFrom(0, 255), 2621708363},
		{"The quick brown fox jumps over the lazy dog", 576848900},
	} {
		if got := Crc(x.s); got != x.want {
			t.Errorf("Crc of %d bytes %.20q = %d; want %d", len(x.s), x.s, got, x.want)
		}
	}
}

// P3.3: the samples, and all strings of two bytes, against the standard library.
func TestCrc(t *testing.T) {
	table := crc32.MakeTable(crc32.Castagnoli)
	all := samples()
	for a := range 256 {
		for b := range 256 {
			all = append(all, string([]byte{byte(a), byte(b)}))
		}
	}
	for _, s := range all {
		if got, want := Crc(s), int(crc32.Checksum([]byte(s), table)); got != want {
			t.Errorf("Crc of %d bytes %.20q = %d; want %d", len(s), s, got, want)
		}
	}
}

// P3.4: strings and their digits.
func TestHexTable(t *testing.T) {
	for _, x := range []struct{ s, digits string }{
		{"", ""},
		{"\x00", "00"},
		{"\x0a", "0a"},
		{"\xa0", "a0"},
		{"\x0f", "0f"},
		{"\xf0", "f0"},
		{"\xff", "ff"},
		{"09af", "30396166"},
		{"\x01\x23\x45\x67\x89\xab\xcd\xef", "0123456789abcdef"},
		{"\xfe\xdc\xba\x98\x76\x54\x32\x10", "fedcba9876543210"},
		{"\x00\x00\x01", "000001"},
		{"\xe2\x82\xac", "e282ac"},
	} {
		if got := Hex(x.s); got != x.digits {
			t.Errorf("Hex(%q) = %q; want %q", x.s, got, x.digits)
		}
		if s, ok := Unhex(x.digits); !ok || s != x.s {
			t.Errorf("Unhex(%q) = %q, %v; want %q", x.digits, s, ok, x.s)
		}
	}
}

// P3.4: every byte value has two digits of its own, which do not depend on the bytes beside it; Unhex inverts Hex.
func TestHex(t *testing.T) {
	const digits = "0123456789abcdef"
	want := ""
	for c := range 256 {
		pair := string([]byte{digits[c/16], digits[c%16]})
		if got := Hex(string([]byte{byte(c)})); got != pair {
			t.Errorf("Hex of the byte %d = %q; want %q", c, got, pair)
		}
		want += pair
	}
	if got := Hex(bytesFrom(0, 255)); got != want {
		t.Errorf("Hex of all bytes = %q", got)
	}
	for _, s := range samples() {
		written := Hex(s)
		if len(written) != 2*len(s) || strings.Trim(written, digits) != "" {
			t.Errorf("Hex of %d bytes %.20q has other characters, or too many", len(s), s)
		}
		if got, ok := Unhex(written); !ok || got != s {
			t.Errorf("Unhex does not invert Hex for %d bytes %.20q", len(s), s)
		}
	}
}

// P3.4: strings that Hex never returns.
func TestUnhexOthers(t *testing.T) {
	for _, s := range []string{
		"0", "a", "g", "000", "0a0", "abcde", "0a0b0", strings.Repeat("0", 4097), // odd lengths
		"0A", "A0", "0B", "C0", "dE", "Ff", "FF", "ABCDEF", "0a0b0C", "000102030405060708090A", // digits in upper case
		"0g", "g0", "0/", "/0", "0:", ":0", "0`", "`0", "0@", "@0", "0G", "zz", "xx", "0x", "0x00", "x0", // neighbours of the digits
		"0 ", " 0", "  ", " 00 ", "00\n", "00\n\n", "\n\n", "\t0", "00 0", "-1", "+1", "1.", "1_00", "_0", // white space and signs
		"\x00\x00", "0\x00", "\x000", "\xff\xff", "\xe9", "\xc3\xa9", "0\xb0", "\xb00", "\xef\xbc\x910", // no ASCII
		"00g0", "000g", "g000", "0g00", strings.Repeat("ab", 2000) + "aB", "Ab" + strings.Repeat("ab", 2000), // beside digits
	} {
		if got, ok := Unhex(s); ok || got != "" {
			t.Errorf("Unhex(%.20q) = %.20q, %v", s, got, ok)
		}
	}
}

// P3.4: every string of one or two bytes, alone and between digits: either Hex writes it, or there is no such string.
func TestUnhexEveryPair(t *testing.T) {
	written := map[string]string{}
	for c := range 256 {
		s := string([]byte{byte(c)})
		written[Hex(s)] = s
		if got, ok := Unhex(s); ok || got != "" {
			t.Errorf("Unhex(%q) = %q, %v", s, got, ok)
		}
	}
	for a := range 256 {
		for b := range 256 {
			pair := string([]byte{byte(a), byte(b)})
			want, known := written[pair]
			if got, ok := Unhex(pair); ok != known || got != want {
				t.Errorf("Unhex(%q) = %q, %v", pair, got, ok)
			}
			between := ""
			if known {
				between = "\x01" + want + "\xfe"
			}
			if got, ok := Unhex("01" + pair + "fe"); ok != known || got != between {
				t.Errorf("Unhex of %q between digits = %q, %v", pair, got, ok)
			}
		}
	}
}

// results holds what all functions return for one string.
type results struct {
	sum        string
	short, crc int
	hex, unhex string
	ok         bool
}

func resultsOf(s string) results {
	bytes, ok := Unhex(s)
	return results{Sum(s), Short(s), Crc(s), Hex(s), bytes, ok}
}

// P3.5: a call returns the same after any other calls, and beside them.
func TestPure(t *testing.T) {
	all := append(samples(), "0a", "0A", "00ff", strings.Repeat("7f", 300))
	first := map[string]results{}
	for _, s := range all {
		first[s] = resultsOf(s)
	}
	for i := range all {
		s := all[len(all)-1-i]
		if resultsOf(s) != first[s] {
			t.Errorf("the second results for %d bytes %.20q", len(s), s)
		}
	}
	var running sync.WaitGroup
	for from := range 4 {
		running.Go(func() {
			for i := from; i < len(all); i += 2 {
				if resultsOf(all[i]) != first[all[i]] {
					t.Errorf("results beside other calls for %d bytes %.20q", len(all[i]), all[i])
				}
			}
		})
	}
	running.Wait()
}

// P3.5: the result for a part of a string does not depend on what lies around the part.
func TestParts(t *testing.T) {
	for _, n := range []int{0, 1, 8, 135, 136, 137, 272, 300} {
		s := walk(n, 7)
		for _, around := range []string{"\x00", "\xff", "0", "x"} {
			whole := strings.Repeat(around, 140) + s + strings.Repeat(around, 140)
			if resultsOf(whole[140:140+n]) != resultsOf(s) {
				t.Errorf("%d bytes between %q", n, around)
			}
		}
	}
}

// P3.6: a string that ends with its own Crc, the least significant byte first, has the residue as its Crc; with another end it does not.
func TestCrcResidue(t *testing.T) {
	for _, s := range samples() {
		n := Crc(s)
		end := string([]byte{byte(n), byte(n >> 8), byte(n >> 16), byte(n >> 24)})
		if got := Crc(s + end); got != residue {
			t.Errorf("%d bytes %.20q with their Crc: %d", len(s), s, got)
		}
		for bit := range 32 {
			if Crc(s+flip(end, bit)) == residue {
				t.Errorf("%d bytes %.20q with a Crc in which bit %d is wrong", len(s), s, bit)
			}
		}
	}
}

// P3.6: the Crc of the exclusive or of three strings of the same length is the exclusive or of their Crcs.
func TestCrcOfThree(t *testing.T) {
	for _, n := range lengths() {
		zeros, ones := strings.Repeat("\x00", n), strings.Repeat("\xff", n)
		a, b, c := walk(n, 1), walk(n, 2), walk(n, 3)
		for _, x := range [][3]string{{a, b, c}, {a, a, b}, {a, a, a}, {zeros, a, b}, {ones, a, b}, {zeros, ones, c}, {zeros, zeros, zeros}, {ones, ones, ones}} {
			if got, want := Crc(xor(x[0], x[1], x[2])), Crc(x[0])^Crc(x[1])^Crc(x[2]); got != want {
				t.Errorf("three strings of %d bytes: %d; want %d", n, got, want)
			}
		}
	}
}

// P3.6: strings that differ in one bit have different Crcs.
func TestCrcOfOtherBit(t *testing.T) {
	for _, n := range []int{1, 2, 3, 4, 5, 8, 33, 136, 300, 1000} {
		for _, s := range []string{strings.Repeat("\x00", n), strings.Repeat("\xff", n), walk(n, 5)} {
			crc := Crc(s)
			for bit := range 8 * n {
				if Crc(flip(s, bit)) == crc {
					t.Fatalf("%d bytes %.20q: bit %d does not change the Crc", n, s, bit)
				}
			}
		}
	}
}

// independent reports whether no exclusive or of some of the numbers, at least one of them, is 0.
func independent(numbers []int) bool {
	var byTop [33]int // a number for each position of the highest bit, made of those before
	for _, n := range numbers {
		for n != 0 && byTop[bits.Len(uint(n))] != 0 {
			n ^= byTop[bits.Len(uint(n))]
		}
		if n == 0 {
			return false
		}
		byTop[bits.Len(uint(n))] = n
	}
	return true
}

// P3.6: strings that differ only within 32 consecutive bits have different Crcs. By the property of three strings, a difference changes the Crc by the exclusive or of what its bits change; so all 2^32 - 1 differences within 32 bits change it if no such exclusive or is 0.
func TestCrcOfOtherBits(t *testing.T) {
	for _, n := range []int{4, 5, 8, 21, 136, 300} {
		for _, s := range []string{strings.Repeat("\x00", n), walk(n, 6)} {
			var changes []int
			for bit := range 8 * n {
				changes = append(changes, Crc(s)^Crc(flip(s, bit)))
			}
			for from := range 8*n - 31 {
				if !independent(changes[from : from+32]) {
					t.Errorf("%d bytes %.20q: a difference within the 32 bits from %d on does not change the Crc", n, s, from)
				}
			}
		}
	}
}

// P3.6: differences within 32 consecutive bits, one by one: all of up to 12 bits, and many of up to 32 bits.
func TestCrcOfOtherBursts(t *testing.T) {
	burst := func(s string, from int, pattern uint64) string {
		b := []byte(s)
		for i := range 32 {
			bit := from + i
			if pattern>>i&1 == 1 {
				b[bit/8] ^= 1 << (bit % 8)
			}
		}
		return string(b)
	}
	for _, n := range []int{5, 9, 64} {
		s := walk(n, 8)
		crc := Crc(s)
		for from := range 8 {
			for pattern := uint64(1); pattern < 1<<12; pattern++ {
				wide := pattern * 0x9e3779b1 & (1<<32 - 1)
				if Crc(burst(s, from, pattern)) == crc || Crc(burst(s, from, wide)) == crc {
					t.Fatalf("%d bytes: the bits %x or %x from %d on do not change the Crc", n, pattern, wide, from)
				}
			}
		}
	}
}
