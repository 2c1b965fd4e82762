package digest

import "math/bits"

const (
	side       = 5 // the number of rows, and of columns
	lanes      = side * side
	laneBytes  = 8
	blockLanes = 17
	blockSize  = blockLanes * laneBytes
	sumLanes   = 4
	rounds     = 24
)

// rotations holds for each lane by how many bits a round rotates it.
var rotations = [lanes]int{0, 1, 62, 28, 27, 36, 44, 6, 55, 20, 3, 10, 43, 25, 39, 41, 45, 15, 21, 8, 18, 2, 61, 56, 14}

// constants holds the constant of each round.
var constants = [rounds]uint64{
	0x0000000000000001, 0x0000000000008082, 0x800000000000808a, 0x8000000080008000,
	0x000000000000808b, 0x0000000080000001, 0x8000000080008081, 0x8000000000008009,
	0x000000000000008a, 0x0000000000000088, 0x0000000080008009, 0x000000008000000a,
	0x000000008000808b, 0x800000000000008b, 0x8000000000008089, 0x8000000000008003,
	0x8000000000008002, 0x8000000000000080, 0x000000000000800a, 0x800000008000000a,
	0x8000000080008081, 0x8000000000008080, 0x0000000080000001, 0x8000000080008008,
}

// state holds the lanes, row by row: the lane in column x of row y has the number x + side*y.
type state [lanes]uint64

// absorb combines a block with the first lanes, and permutes the state.
func (a *state) absorb(block string) {
	for i := range blockLanes {
		a[i] ^= lane(block[laneBytes*i:])
	}
	a.permute()
}

// permute applies all rounds.
func (a *state) permute() {
	for _, c := range constants {
		a.mixColumns()
		b := a.moved()
		a.mixRows(&b)
		a[0] ^= c
	}
}

// mixColumns combines each lane with the parities of the columns beside its own (step 1 of a round).
func (a *state) mixColumns() {
	var parity [side]uint64
	for x := range side {
		parity[x] = a[x] ^ a[x+side] ^ a[x+2*side] ^ a[x+3*side] ^ a[x+4*side]
	}
	for x := range side {
		mix := parity[(x+side-1)%side] ^ bits.RotateLeft64(parity[(x+1)%side], 1)
		for i := x; i < lanes; i += side {
			a[i] ^= mix
		}
	}
}

// moved returns the lanes, rotated and in their new places (step 2 of a round).
func (a *state) moved() state {
	var b state
	for i, rotation := range rotations {
		x, y := i%side, i/side
		b[y+side*((2*x+3*y)%side)] = bits.RotateLeft64(a[i], rotation)
	}
	return b
}

// mixRows makes each lane from that of b and the two behind it in its row (step 3 of a round). It is written out because Sum takes much longer with a loop that wraps around in each row.
func (a *state) mixRows(b *state) {
	for i := 0; i < lanes; i += side {
		v, w, x, y, z := b[i], b[i+1], b[i+2], b[i+3], b[i+4]
		a[i] = v ^ (^w & x)
		a[i+1] = w ^ (^x & y)
		a[i+2] = x ^ (^y & z)
		a[i+3] = y ^ (^z & v)
		a[i+4] = z ^ (^v & w)
	}
}

// sum returns the bytes of the first lanes.
func (a *state) sum() string {
	b := make([]byte, 0, sumLanes*laneBytes)
	for i := range sumLanes {
		for j := range laneBytes {
			b = append(b, byte(a[i]>>(8*j)))
		}
	}
	return string(b)
}

// lane returns the lane that a string begins with.
func lane(s string) uint64 {
	l := uint64(0)
	for i := range laneBytes {
		l |= uint64(s[i]) << (8 * i)
	}
	return l
}

// lastBlock returns the block that begins with what is left of a string, which is less than a block.
func lastBlock(rest string) string {
	block := make([]byte, blockSize)
	copy(block, rest)
	block[len(rest)] = 6
	block[blockSize-1] += 128 // the 6 may stand here
	return string(block)
}
