package isa

import "linchpin/api"

// The fields of an instruction that can be operands, in the order in which they are written. The stack pointer is behind them, since instructions use it without an operand for it.
const (
	fieldA = iota
	fieldB
	fieldC
	fieldImm
	stack

	fields = stack
)

// set is a set of fields, possibly with the stack pointer.
type set uint8

const (
	inA set = 1 << iota
	inB
	inC
	inImm
	inStack

	none set = 0
)

// has reports whether a field is in the set.
func (s set) has(field int) bool { return s>>field&1 == 1 }

// form says how an instruction is written, and in which fields it has the registers that it reads and writes.
type form struct {
	name                    string
	operands, reads, writes set
}

var forms = [api.OpKinds]form{
	api.OpNop:      {"nop", none, none, none},
	api.OpSafe:     {"safe", none, none, none},
	api.OpSet:      {"set", inA | inImm, none, inA},
	api.OpHigh:     {"high", inA | inImm, inA, inA},
	api.OpMove:     {"move", inA | inB, inB, inA},
	api.OpAdd:      {"add", inA | inB | inC, inB | inC, inA},
	api.OpSub:      {"sub", inA | inB | inC, inB | inC, inA},
	api.OpMul:      {"mul", inA | inB | inC, inB | inC, inA},
	api.OpAnd:      {"and", inA | inB | inC, inB | inC, inA},
	api.OpOr:       {"or", inA | inB | inC, inB | inC, inA},
	api.OpLess:     {"less", inA | inB | inC, inB | inC, inA},
	api.OpSame:     {"same", inA | inB | inC, inB | inC, inA},
	api.OpAddImm:   {"addi", inA | inB | inImm, inB, inA},
	api.OpAddr:     {"addr", inA | inImm, none, inA},
	api.OpLoad:     {"load", inA | inB | inImm, inB, inA},
	api.OpByte:     {"byte", inA | inB | inImm, inB, inA},
	api.OpStore:    {"store", inA | inB | inImm, inA | inB, none},
	api.OpPut:      {"put", inA | inB | inImm, inA | inB, none},
	api.OpJump:     {"jump", inImm, none, none},
	api.OpZero:     {"zero", inA | inImm, inA, none},
	api.OpNonzero:  {"nonzero", inA | inImm, inA, none},
	api.OpCall:     {"call", inImm, inStack, inStack},
	api.OpCallReg:  {"callr", inA, inA | inStack, inStack},
	api.OpCallSlot: {"calls", inImm, inStack, inStack},
	api.OpJumpSlot: {"jumps", inImm, none, none},
	api.OpReturn:   {"return", none, inStack, inStack},
	api.OpPush:     {"push", inA, inA | inStack, inStack},
	api.OpPop:      {"pop", inA, inStack, inA | inStack},
	api.OpTls:      {"tls", inA | inB, inB, inA},
	api.OpSys:      {"sys", inImm, none, none}, // it uses what the system call does
}

// A system call reads so many registers from 0 on, and writes so many.
var calls = [api.SysKinds]struct{ reads, writes int }{
	api.SysExit:  {0, 0},
	api.SysOut:   {1, 0},
	api.SysAlloc: {1, 1},
	api.SysSpawn: {2, 1},
	api.SysYield: {0, 0},
	api.SysOpen:  {3, 1},
	api.SysClose: {1, 1},
	api.SysFind:  {3, 1},
}

// fieldsOf returns the fields of an instruction that can be operands.
func fieldsOf(i api.Ins) [fields]int {
	return [fields]int{fieldA: i.A, fieldB: i.B, fieldC: i.C, fieldImm: i.Imm}
}

// opNamed returns the Op with a mnemonic, or false if there is none.
func opNamed(name string) (int, bool) {
	for op := api.OpNop; op < api.OpKinds; op++ {
		if forms[op].name == name {
			return op, true
		}
	}
	return api.OpBad, false
}
