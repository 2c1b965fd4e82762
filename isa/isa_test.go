package isa

import (
	"math"
	"slices"
	"strings"
	"testing"

	"linchpin/api"
)

// check compares Right, Encode, Text and Uses of an instruction with the model.
func check(t *testing.T, i api.Ins) {
	t.Helper()
	want := modelRight(i)
	if got := Right(i); got != want {
		t.Fatalf("Right(%+v) = %v", i, got)
	}
	bytes, text := "", ""
	if want {
		bytes, text = modelEncode(i), modelText(i)
	}
	if s, ok := Encode(i); s != bytes || ok != want {
		t.Fatalf("Encode(%+v) = %q, %v", i, s, ok)
	}
	if s := Text(i); s != text {
		t.Fatalf("Text(%+v) = %q", i, s)
	}
	reads, writes := Uses(i)
	wantReads, wantWrites := modelUses(i)
	if !slices.Equal(reads, wantReads) || !slices.Equal(writes, wantWrites) {
		t.Fatalf("Uses(%+v) = %v, %v", i, reads, writes)
	}
}

// P9.1: instructions written out by hand.
func TestRightTable(t *testing.T) {
	for _, x := range []struct {
		i    api.Ins
		want bool
	}{
		{api.Ins{}, false},
		{api.Ins{Op: -1}, false},
		{api.Ins{Op: api.OpBad}, false},
		{api.Ins{Op: api.OpKinds}, false},
		{api.Ins{Op: api.OpKinds + 1}, false},
		{api.Ins{Op: 256 + api.OpNop}, false},
		{api.Ins{Op: api.OpNop}, true},
		{api.Ins{Op: api.OpNop, A: 1}, false},
		{api.Ins{Op: api.OpNop, A: -1}, false},
		{api.Ins{Op: api.OpSafe}, true},
		{api.Ins{Op: api.OpSafe, B: 1}, false},
		{api.Ins{Op: api.OpReturn, C: 1}, false},
		{api.Ins{Op: api.OpReturn, Imm: 8}, false},
		{api.Ins{Op: api.OpReturn}, true},
		{api.Ins{Op: api.OpSet, A: 15, Imm: 1<<31 - 1}, true},
		{api.Ins{Op: api.OpSet, A: 15, Imm: 1 << 31}, false},
		{api.Ins{Op: api.OpSet, A: 15, Imm: 1<<32 - 1}, false},
		{api.Ins{Op: api.OpSet, A: 15, Imm: -1 << 31}, true},
		{api.Ins{Op: api.OpSet, A: 15, Imm: -1<<31 - 1}, false},
		{api.Ins{Op: api.OpSet, A: 16}, false},
		{api.Ins{Op: api.OpSet, A: -1}, false},
		{api.Ins{Op: api.OpSet, A: 256}, false},
		{api.Ins{Op: api.OpSet, B: 1}, false},
		{api.Ins{Op: api.OpSet, C: 1}, false},
		{api.Ins{Op: api.OpMove, A: 15, B: 15}, true},
		{api.Ins{Op: api.OpMove, A: 15, B: 16}, false},
		{api.Ins{Op: api.OpMove, B: -1}, false},
		{api.Ins{Op: api.OpMove, C: 1}, false},
		{api.Ins{Op: api.OpMove, Imm: 1}, false},
		{api.Ins{Op: api.OpAdd, A: 15, B: 15, C: 15}, true},
		{api.Ins{Op: api.OpAdd, C: 16}, false},
		{api.Ins{Op: api.OpAdd, C: -1}, false},
		{api.Ins{Op: api.OpAdd, Imm: -1}, false},
		{api.Ins{Op: api.OpLoad, A: 1, B: 2, Imm: 3}, true},
		{api.Ins{Op: api.OpLoad, A: 1, B: 2, C: 3}, false},
		{api.Ins{Op: api.OpJump, Imm: 8}, true},
		{api.Ins{Op: api.OpJump, Imm: 7}, false},
		{api.Ins{Op: api.OpJump, Imm: -8}, true},
		{api.Ins{Op: api.OpJump, Imm: -4}, false},
		{api.Ins{Op: api.OpJump, Imm: 1<<31 - 8}, true},
		{api.Ins{Op: api.OpJump, Imm: 1 << 31}, false},
		{api.Ins{Op: api.OpJump, Imm: -1 << 31}, true},
		{api.Ins{Op: api.OpJump, Imm: -1<<31 - 8}, false},
		{api.Ins{Op: api.OpJump, A: 1}, false},
		{api.Ins{Op: api.OpZero, A: 1, Imm: 16}, true},
		{api.Ins{Op: api.OpZero, A: 1, Imm: 17}, false},
		{api.Ins{Op: api.OpNonzero, A: 1, Imm: -1}, false},
		{api.Ins{Op: api.OpCall, Imm: api.CallRange - 8}, true},
		{api.Ins{Op: api.OpCall, Imm: api.CallRange - 1}, false},
		{api.Ins{Op: api.OpCall, Imm: api.CallRange}, false},
		{api.Ins{Op: api.OpCall, Imm: -api.CallRange}, true},
		{api.Ins{Op: api.OpCall, Imm: -api.CallRange - 1}, false},
		{api.Ins{Op: api.OpCall, Imm: -api.CallRange - 8}, false},
		{api.Ins{Op: api.OpCall, Imm: 4}, false},
		{api.Ins{Op: api.OpCallSlot, Imm: api.CallRange}, true},
		{api.Ins{Op: api.OpCallSlot, Imm: 12}, false},
		{api.Ins{Op: api.OpJumpSlot, Imm: -api.CallRange - 8}, true},
		{api.Ins{Op: api.OpJumpSlot, Imm: 2}, false},
		{api.Ins{Op: api.OpAddr, Imm: 1}, true}, // no multiple of 8
		{api.Ins{Op: api.OpCallReg, A: 15}, true},
		{api.Ins{Op: api.OpCallReg, Imm: 8}, false},
		{api.Ins{Op: api.OpSys, Imm: api.SysExit}, true},
		{api.Ins{Op: api.OpSys, Imm: -1}, false},
		{api.Ins{Op: api.OpSys, Imm: api.SysKinds - 1}, true},
		{api.Ins{Op: api.OpSys, Imm: api.SysKinds}, false},
		{api.Ins{Op: api.OpSys, A: 1}, false},
	} {
		if got := Right(x.i); got != x.want {
			t.Errorf("Right(%+v) = %v", x.i, got)
		}
		check(t, x.i)
	}
}

// P9.1, P9.2, P9.3: the Ops are those of package api, each with the form in the chapter's table.
func TestTable(t *testing.T) {
	if len(table) != api.OpKinds-1 || len(sysTable) != api.SysKinds {
		t.Fatal("the table of the tests does not have every Op and system call")
	}
	for op := range api.OpKinds {
		i := api.Ins{Op: op, Imm: 0}
		if Right(i) != (op != api.OpBad) {
			t.Errorf("Op %d: %v", op, Right(i))
		}
	}
}

// P9.1, P9.2, P9.3: all combinations of edges in all fields.
func TestEdges(t *testing.T) {
	registers, imms := registerEdges(), immEdges()
	for _, op := range ops() {
		for _, x := range registers {
			for _, y := range registers {
				for _, z := range []int{0, 15, 1, 16, -1, 256, math.MinInt} {
					for _, n := range imms {
						check(t, api.Ins{Op: op, A: x, B: y, C: z, Imm: n})
					}
				}
			}
		}
	}
}

// P9.1, P9.2, P9.3: all registers and numbers near them in every place, and every Imm around the range of calls.
func TestAllRegisters(t *testing.T) {
	for _, r := range table {
		for x := -2; x < 18; x++ {
			for y := -2; y < 18; y++ {
				check(t, api.Ins{Op: r.op, A: x, B: y})
				check(t, api.Ins{Op: r.op, A: x, C: y})
				for z := range 17 {
					check(t, api.Ins{Op: r.op, A: x, B: y, C: z})
				}
			}
		}
		for n := -api.CallRange - 20; n < api.CallRange+20; n++ {
			check(t, api.Ins{Op: r.op, Imm: n})
			check(t, api.Ins{Op: r.op, A: 3, Imm: n})
			check(t, api.Ins{Op: r.op, A: 3, B: 4, Imm: n})
		}
	}
}

// P9.1: bytes written out by hand.
func TestEncodeTable(t *testing.T) {
	for _, x := range []struct {
		i    api.Ins
		want string
	}{
		{api.Ins{Op: api.OpAddImm, A: 1, B: 2, Imm: -1}, "\x0d\x01\x02\x00\xff\xff\xff\xff"}, // the chapter's example
		{api.Ins{Op: api.OpNop}, "\x01\x00\x00\x00\x00\x00\x00\x00"},
		{api.Ins{Op: api.OpSame, A: 13, B: 14, C: 15}, "\x0c\x0d\x0e\x0f\x00\x00\x00\x00"},
		{api.Ins{Op: api.OpSet, A: 15, Imm: 0x12345678}, "\x03\x0f\x00\x00\x78\x56\x34\x12"},
		{api.Ins{Op: api.OpHigh, A: 9, Imm: -1 << 31}, "\x04\x09\x00\x00\x00\x00\x00\x80"},
		{api.Ins{Op: api.OpHigh, A: 9, Imm: 1<<31 - 1}, "\x04\x09\x00\x00\xff\xff\xff\x7f"},
		{api.Ins{Op: api.OpCall, Imm: -512}, "\x16\x00\x00\x00\x00\xfe\xff\xff"},
		{api.Ins{Op: api.OpSys, Imm: 7}, "\x1e\x00\x00\x00\x07\x00\x00\x00"},
	} {
		if s, ok := Encode(x.i); s != x.want || !ok {
			t.Errorf("Encode(%+v) = %q, %v", x.i, s, ok)
		}
		if i, ok := Decode(x.want, 0); i != x.i || !ok {
			t.Errorf("Decode(%q) = %+v, %v", x.want, i, ok)
		}
	}
}

// checkDecode compares Decode with the model.
func checkDecode(t *testing.T, s string, at int) {
	t.Helper()
	want, is := modelDecode(s, at)
	if got, ok := Decode(s, at); got != want || ok != is {
		t.Fatalf("Decode(%q, %d) = %+v, %v", s, at, got, ok)
	}
}

// P9.1: offsets within strings and outside of them.
func TestDecodeOffsets(t *testing.T) {
	nop, set := modelEncode(api.Ins{Op: api.OpNop}), modelEncode(api.Ins{Op: api.OpSet, A: 3, Imm: -2})
	for _, whole := range []string{"", nop, set, nop + set, set + nop + set, strings.Repeat("\x01", 20), strings.Repeat("\x00", 20), "abc" + set + "d"} {
		for end := range len(whole) + 1 {
			s := whole[:end]
			for at := -20; at <= len(s)+20; at++ {
				checkDecode(t, s, at)
			}
			for _, at := range []int{math.MinInt, math.MinInt + 1, math.MinInt + 8, math.MaxInt, math.MaxInt - 1, math.MaxInt - 3, math.MaxInt - 4, math.MaxInt - 7, math.MaxInt - 8, 1 << 32, -1 << 32} {
				checkDecode(t, s, at)
			}
		}
	}
	if i, ok := Decode("abc"+set+"d", 3); i != (api.Ins{Op: api.OpSet, A: 3, Imm: -2}) || !ok {
		t.Errorf("%+v, %v", i, ok)
	}
}

// P9.1: every byte in every place of bytes of instructions, and pairs of bytes.
func TestDecodeBytes(t *testing.T) {
	for _, r := range table {
		i := api.Ins{Op: r.op}
		for _, base := range []string{modelEncode(i), modelEncode(api.Ins{Op: r.op, A: 1, B: 2, C: 3, Imm: 8}), modelEncode(api.Ins{Op: r.op, A: 15, Imm: -8}), modelEncode(api.Ins{Op: r.op, A: 4, B: 15, Imm: 1<<31 - 1})} {
			for place := range 8 {
				for b := range 256 {
					s := []byte(base)
					s[place] = byte(b)
					checkDecode(t, string(s), 0)
					for _, other := range []byte{0, 1, 8, 16, 128, 255} {
						s[(place+1)%8] = other
						checkDecode(t, string(s), 0)
					}
				}
			}
		}
	}
}

// P9.1, P9.5: pseudo-random bytes; what Decode accepts is what Encode returns for the result.
func TestDecodeRandom(t *testing.T) {
	next := random(9)
	accepted := 0
	for range 300000 {
		s := make([]byte, 8+next(4))
		for i := range s {
			s[i] = byte([]int{0, 1, next(16), next(32), next(256), 255}[next(6)])
		}
		at := next(6) - 1
		checkDecode(t, string(s), at)
		if i, ok := Decode(string(s), at); ok {
			accepted++
			if e, ok := Encode(i); e != string(s[at:at+8]) || !ok {
				t.Fatalf("Encode(%+v) = %q, not %q", i, e, s[at:at+8])
			}
		}
	}
	if accepted < 500 {
		t.Errorf("only %d strings were accepted", accepted)
	}
}

// P9.5: Decode and Parse invert Encode and Text, whose results are different for different instructions.
func TestInverse(t *testing.T) {
	bytes, texts := map[string]api.Ins{}, map[string]api.Ins{}
	for _, i := range someRight() {
		s, ok := Encode(i)
		if back, is := Decode(s, 0); !ok || !is || back != i {
			t.Fatalf("%+v: %q: %+v", i, s, back)
		}
		text := Text(i)
		if back, e := Parse(text); back != i || e != api.OK {
			t.Fatalf("%+v: %q: %+v, %v", i, text, back, e)
		}
		if other, ok := bytes[s]; ok && other != i {
			t.Fatalf("%+v and %+v have the same bytes", i, other)
		}
		if other, ok := texts[text]; ok && other != i {
			t.Fatalf("%+v and %+v have the same text", i, other)
		}
		bytes[s], texts[text] = i, i
	}
	if len(bytes) < 8000 || len(bytes) != len(texts) {
		t.Errorf("%d bytes and %d texts", len(bytes), len(texts))
	}
}

// P9.3: registers written out by hand.
func TestUsesTable(t *testing.T) {
	for _, x := range []struct {
		i             api.Ins
		reads, writes []int
	}{
		{api.Ins{Op: api.OpPop, A: 4}, []int{15}, []int{4, 15}}, // the chapter's example
		{api.Ins{Op: api.OpPop, A: 15}, []int{15}, []int{15}},
		{api.Ins{Op: api.OpPush, A: 4}, []int{4, 15}, []int{15}},
		{api.Ins{Op: api.OpPush, A: 15}, []int{15}, []int{15}},
		{api.Ins{Op: api.OpCallReg}, []int{0, 15}, []int{15}},
		{api.Ins{Op: api.OpCallReg, A: 15}, []int{15}, []int{15}},
		{api.Ins{Op: api.OpNop}, nil, nil},
		{api.Ins{Op: api.OpSafe}, nil, nil},
		{api.Ins{Op: api.OpSet, A: 0}, nil, []int{0}},
		{api.Ins{Op: api.OpHigh, A: 7}, []int{7}, []int{7}},
		{api.Ins{Op: api.OpMove, A: 7, B: 7}, []int{7}, []int{7}},
		{api.Ins{Op: api.OpAdd, A: 1, B: 9, C: 3}, []int{3, 9}, []int{1}},
		{api.Ins{Op: api.OpSub, A: 1, B: 9, C: 9}, []int{9}, []int{1}},
		{api.Ins{Op: api.OpSame, A: 9, B: 9, C: 9}, []int{9}, []int{9}},
		{api.Ins{Op: api.OpAddImm, A: 1, B: 0, Imm: 5}, []int{0}, []int{1}},
		{api.Ins{Op: api.OpStore, A: 12, B: 2, Imm: 5}, []int{2, 12}, nil},
		{api.Ins{Op: api.OpPut, A: 2, B: 2}, []int{2}, nil},
		{api.Ins{Op: api.OpZero, A: 5}, []int{5}, nil},
		{api.Ins{Op: api.OpJump, Imm: 8}, nil, nil},
		{api.Ins{Op: api.OpJumpSlot, Imm: 8}, nil, nil},
		{api.Ins{Op: api.OpCall, Imm: 8}, []int{15}, []int{15}},
		{api.Ins{Op: api.OpCallSlot, Imm: 8}, []int{15}, []int{15}},
		{api.Ins{Op: api.OpReturn}, []int{15}, []int{15}},
		{api.Ins{Op: api.OpTls, A: 1, B: 2}, []int{2}, []int{1}},
		{api.Ins{Op: api.OpSys, Imm: api.SysExit}, nil, nil},
		{api.Ins{Op: api.OpSys, Imm: api.SysOut}, []int{0}, nil},
		{api.Ins{Op: api.OpSys, Imm: api.SysAlloc}, []int{0}, []int{0}},
		{api.Ins{Op: api.OpSys, Imm: api.SysSpawn}, []int{0, 1}, []int{0}},
		{api.Ins{Op: api.OpSys, Imm: api.SysYield}, nil, nil},
		{api.Ins{Op: api.OpSys, Imm: api.SysOpen}, []int{0, 1, 2}, []int{0}},
		{api.Ins{Op: api.OpSys, Imm: api.SysClose}, []int{0}, []int{0}},
		{api.Ins{Op: api.OpSys, Imm: api.SysFind}, []int{0, 1, 2}, []int{0}},
		{api.Ins{Op: api.OpSys, Imm: api.SysKinds}, nil, nil}, // not right
		{api.Ins{Op: api.OpSys, Imm: -1}, nil, nil},
		{api.Ins{Op: api.OpSys, A: 1, Imm: api.SysOpen}, nil, nil},
		{api.Ins{Op: api.OpMove, A: 1, B: 16}, nil, nil},
		{api.Ins{Op: api.OpMove, A: 1, B: 2, C: 3}, nil, nil},
		{api.Ins{Op: api.OpPush, A: -1}, nil, nil},
		{api.Ins{Op: api.OpCall, Imm: 4}, nil, nil},
		{api.Ins{A: 1}, nil, nil},
		{api.Ins{Op: api.OpKinds}, nil, nil},
	} {
		reads, writes := Uses(x.i)
		if !slices.Equal(reads, x.reads) || !slices.Equal(writes, x.writes) {
			t.Errorf("Uses(%+v) = %v, %v", x.i, reads, writes)
		}
	}
}

// P9.4: the same results again, also when earlier ones were changed, up to their capacity.
func TestPurity(t *testing.T) {
	for _, i := range someRight() {
		if i.Imm != 0 && i.Op != api.OpSys {
			continue
		}
		wantReads, wantWrites := modelUses(i)
		reads, writes := Uses(i)
		for _, l := range [][]int{reads[:cap(reads)], writes[:cap(writes)]} {
			for k := range l {
				l[k] = 77
			}
		}
		again, alsoAgain := Uses(i)
		if !slices.Equal(again, wantReads) || !slices.Equal(alsoAgain, wantWrites) {
			t.Fatalf("Uses(%+v) = %v, %v", i, again, alsoAgain)
		}
		for k := range again {
			again[k] = 78
		}
		if !slices.Equal(alsoAgain, wantWrites) {
			t.Fatalf("the results of Uses(%+v) share memory", i)
		}
	}
	for range 3 {
		for _, i := range []api.Ins{{Op: api.OpLoad, A: 1, B: 2, Imm: 3}, {Op: api.OpReturn}, {Op: api.OpSys, Imm: 5}, {Op: api.OpSys, Imm: 8}} {
			check(t, i)
			s, ok := Encode(i)
			if back, is := Decode(s, 0); ok != is || ok && back != i {
				t.Errorf("%+v: %+v", i, back)
			}
		}
	}
}
