// Package word reads and writes numbers in strings of bytes, and rounds numbers (layer 1).
package word

import "linchpin/api"

// The bounds within which Up and Down round; sums of two such numbers do not wrap around.
const (
	maxStep    = 1 << 40
	maxRounded = 1 << 60
)

// Get returns the value of the field of s at the offset at, or false if there is no such field. A field of size 8 has its signed value in either case.
func Get(s string, at, size int, signed bool) (int, bool) {
	if !exists(s, at, size) {
		return 0, false
	}
	n := 0
	for i := range size {
		n |= int(s[at+i]) << (8 * i)
	}
	if signed {
		n = extend(n, size)
	}
	return n, true
}

// Put returns s with the lowest bytes of n in the field at the offset at, or false if there is no such field, or n is neither a signed nor an unsigned number of its size.
func Put(s string, at, size, n int) (string, bool) {
	if !exists(s, at, size) {
		return "", false
	}
	bits := 8 * size
	if !Fits(n, bits, true) && !Fits(n, bits, false) {
		return "", false
	}
	field := make([]byte, 0, size)
	write := func(place int) {
		field = append(field, byte(n>>(8*place)))
	}
	for place := range size {
		write(place)
	}
	return s[:at] + string(field) + s[at+size:], true
}

// exists reports whether s has a field of this size at the offset at. It subtracts, because at+size may wrap around.
func exists(s string, at, size int) bool {
	switch size {
	case 1, 2, 4, 8:
		return at >= 0 && at <= len(s)-size
	}
	return false
}

// extend returns the signed value of a field whose number is n.
func extend(n, size int) int {
	unused := 64 - 8*size
	return n << unused >> unused
}

// Fits reports whether n is a number of so many bits, signed or not.
func Fits(n, bits int, signed bool) bool {
	if bits < 1 || bits > 64 {
		return false
	}
	if !signed {
		return n >= 0 && n>>bits == 0
	}
	// What is left above the lower bits-1 bits are copies of the sign.
	high := n >> (bits - 1)
	return high == 0 || high == -1
}

// Up returns the least multiple of to that is at least n, or n if one of them is out of bounds.
func Up(n, to int) int {
	// The bounds of n are symmetric, so this returns n where Down returns its argument.
	return -Down(-n, to)
}

// Down returns the greatest multiple of to that is at most n, or n if one of them is out of bounds.
func Down(n, to int) int {
	if to < 1 || to > maxStep || n < -maxRounded || n > maxRounded {
		return n
	}
	rest := n % to
	if rest < 0 {
		rest += to
	}
	return n - rest
}

// Power reports whether n can be an alignment: a power of 2 from 1 to api.MaxAlign.
func Power(n int) bool {
	return n >= 1 && n <= api.MaxAlign && n&(n-1) == 0
}
