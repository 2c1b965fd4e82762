package isa

import (
	"encoding/binary"
	"math"
	"regexp"
	"slices"
	"strconv"
	"strings"

	"linchpin/api"
)

// row is a row of the chapter's table: operands and registers as they are written there.
type row struct {
	op       int
	name     string
	operands string
	reads    string
	writes   string
}

// table is the chapter's table with one row for each Op.
var table = []row{
	{1, "nop", "", "", ""},
	{2, "safe", "", "", ""},
	{3, "set", "A, Imm", "", "A"},
	{4, "high", "A, Imm", "A", "A"},
	{5, "move", "A, B", "B", "A"},
	{6, "add", "A, B, C", "B, C", "A"},
	{7, "sub", "A, B, C", "B, C", "A"},
	{8, "mul", "A, B, C", "B, C", "A"},
	{9, "and", "A, B, C", "B, C", "A"},
	{10, "or", "A, B, C", "B, C", "A"},
	{11, "less", "A, B, C", "B, C", "A"},
	{12, "same", "A, B, C", "B, C", "A"},
	{13, "addi", "A, B, Imm", "B", "A"},
	{14, "addr", "A, Imm", "", "A"},
	{15, "load", "A, B, Imm", "B", "A"},
	{16, "byte", "A, B, Imm", "B", "A"},
	{17, "store", "A, B, Imm", "A, B", ""},
	{18, "put", "A, B, Imm", "A, B", ""},
	{19, "jump", "Imm", "", ""},
	{20, "zero", "A, Imm", "A", ""},
	{21, "nonzero", "A, Imm", "A", ""},
	{22, "call", "Imm", "15", "15"},
	{23, "callr", "A", "A, 15", "15"},
	{24, "calls", "Imm", "15", "15"},
	{25, "jumps", "Imm", "", ""},
	{26, "return", "", "15", "15"},
	{27, "push", "A", "A, 15", "15"},
	{28, "pop", "A", "15", "A, 15"},
	{29, "tls", "A, B", "B", "A"},
	{30, "sys", "Imm", "", ""},
}

// sysTable states what each system call reads and writes.
var sysTable = [][2]string{{"", ""}, {"0", ""}, {"0", "0"}, {"0, 1", "0"}, {"", ""}, {"0, 1, 2", "0"}, {"0", "0"}, {"0, 1, 2", "0"}}

// words returns the words of a list of the table.
func words(s string) []string {
	if s == "" {
		return nil
	}
	return strings.Split(s, ", ")
}

// rowOf returns the row of an Op, or false if there is none.
func rowOf(op int) (row, bool) {
	for _, r := range table {
		if r.op == op {
			return r, true
		}
	}
	return row{}, false
}

// get returns the field with a name.
func get(i api.Ins, field string) int {
	switch field {
	case "A":
		return i.A
	case "B":
		return i.B
	case "C":
		return i.C
	case "Imm":
		return i.Imm
	}
	n, err := strconv.Atoi(field)
	if err != nil {
		panic(field)
	}
	return n
}

// put changes the field with a name.
func put(i *api.Ins, field string, n int) {
	switch field {
	case "A":
		i.A = n
	case "B":
		i.B = n
	case "C":
		i.C = n
	case "Imm":
		i.Imm = n
	default:
		panic(field)
	}
}

// modelRight follows the definition of a right instruction.
func modelRight(i api.Ins) bool {
	r, ok := rowOf(i.Op)
	if !ok {
		return false
	}
	operands := words(r.operands)
	for _, field := range []string{"A", "B", "C"} {
		n := get(i, field)
		if slices.Contains(operands, field) {
			if n < 0 || n > 15 {
				return false
			}
		} else if n != 0 {
			return false
		}
	}
	if !slices.Contains(operands, "Imm") {
		return i.Imm == 0
	}
	if i.Imm < math.MinInt32 || i.Imm > math.MaxInt32 {
		return false
	}
	if slices.Contains([]string{"jump", "zero", "nonzero", "call", "calls", "jumps"}, r.name) && i.Imm%8 != 0 {
		return false
	}
	if r.name == "call" && (i.Imm < -512 || i.Imm > 504) {
		return false
	}
	return r.name != "sys" || i.Imm >= 0 && i.Imm <= 7
}

// modelEncode returns the bytes of an instruction that is right.
func modelEncode(i api.Ins) string {
	b := []byte{byte(i.Op), byte(i.A), byte(i.B), byte(i.C)}
	return string(binary.LittleEndian.AppendUint32(b, uint32(int32(i.Imm))))
}

// modelDecode follows P9.1.
func modelDecode(s string, at int) (api.Ins, bool) {
	if at < 0 || at > len(s) || len(s[at:]) < 8 {
		return api.Ins{}, false
	}
	b := []byte(s[at : at+8])
	i := api.Ins{Op: int(b[0]), A: int(b[1]), B: int(b[2]), C: int(b[3]), Imm: int(int32(binary.LittleEndian.Uint32(b[4:])))}
	if !modelRight(i) {
		return api.Ins{}, false
	}
	return i, true
}

// modelText returns the line of an instruction that is right.
func modelText(i api.Ins) string {
	r, _ := rowOf(i.Op)
	var l []string
	for _, field := range words(r.operands) {
		text := strconv.Itoa(get(i, field))
		if field != "Imm" {
			text = "r" + text
		}
		l = append(l, text)
	}
	return strings.TrimSuffix(r.name+" "+strings.Join(l, ", "), " ")
}

// pattern returns the lines that have the form of a row, with any registers of one or two digits.
func (r row) pattern() *regexp.Regexp {
	p := `^[ \t]*` + r.name
	for i, field := range words(r.operands) {
		if i == 0 {
			p += `[ \t]+`
		} else {
			p += `[ \t]*,[ \t]*`
		}
		if field == "Imm" {
			p += `(-?[0-9]{1,10})`
		} else {
			p += `r(0|[1-9][0-9]?)`
		}
	}
	return regexp.MustCompile(p + `[ \t]*$`)
}

// reader parses lines as the definition of a line says.
type reader []*regexp.Regexp

// newReader returns a reader.
func newReader() reader {
	var m reader
	for _, r := range table {
		m = append(m, r.pattern())
	}
	return m
}

// parse follows P9.2.
func (m reader) parse(s string) (api.Ins, api.Errno) {
	for k, r := range table {
		found := m[k].FindStringSubmatch(s)
		if found == nil {
			continue
		}
		i := api.Ins{Op: r.op}
		for j, field := range words(r.operands) {
			n, err := strconv.ParseInt(found[j+1], 10, 64)
			if err != nil {
				panic(err)
			}
			put(&i, field, int(n))
		}
		if !modelRight(i) {
			return api.Ins{}, api.ErrRange
		}
		return i, api.OK
	}
	return api.Ins{}, api.ErrForm
}

// modelUses follows P9.3 for an instruction that may be wrong.
func modelUses(i api.Ins) (reads, writes []int) {
	if !modelRight(i) {
		return nil, nil
	}
	r, _ := rowOf(i.Op)
	if r.name == "sys" {
		return ascending(i, sysTable[i.Imm][0]), ascending(i, sysTable[i.Imm][1])
	}
	return ascending(i, r.reads), ascending(i, r.writes)
}

// ascending returns the registers of a list of the table in ascending order and without repetitions.
func ascending(i api.Ins, list string) []int {
	var l []int
	for _, field := range words(list) {
		l = append(l, get(i, field))
	}
	slices.Sort(l)
	return slices.Compact(l)
}

// random returns a function that returns numbers below a bound, the same ones each time.
func random(seed uint64) func(bound int) int {
	return func(bound int) int {
		seed = seed*6364136223846793005 + 1442695040888963407
		return int(seed>>33) % bound
	}
}

// ops returns every Op, and numbers that are none.
func ops() []int {
	l := []int{math.MinInt, math.MinInt + 1, -256 + api.OpNop, -2, -1, api.OpKinds + 1, 127, 128, 255, 256, 256 + api.OpNop, 1 << 32, 1<<32 + api.OpNop, math.MaxInt}
	for op := range api.OpKinds + 1 {
		l = append(l, op)
	}
	return l
}

// registerEdges returns numbers at and around the bounds of registers.
func registerEdges() []int {
	return []int{0, 1, 14, 15, 16, 17, -1, -16, 255, 256, 1 << 32, math.MaxInt, math.MinInt}
}

// immEdges returns numbers at and around the bounds of Imm for every Op.
func immEdges() []int {
	var l []int
	for _, n := range []int{0, 8, 16, 504, 512, 520, 1 << 31, 1 << 32, 1 << 62} {
		for d := -1; d <= 1; d++ {
			l = append(l, n+d, -n+d)
		}
	}
	for n := -9; n <= 9; n++ {
		l = append(l, n, math.MaxInt32+n, math.MinInt32+n)
	}
	l = append(l, 4, 12, 508, -508, 516, -516, math.MaxInt, math.MaxInt-7, math.MinInt, math.MinInt+8)
	slices.Sort(l)
	return slices.Compact(l)
}

// someRight returns right instructions of every Op with all combinations of certain registers and Imms.
func someRight() []api.Ins {
	var l []api.Ins
	for _, r := range table {
		for _, x := range []int{0, 1, 7, 14, 15} {
			for _, y := range []int{0, 1, 8, 15} {
				for _, z := range []int{0, 1, 2, 15} {
					for _, imm := range immEdges() {
						i := api.Ins{Op: r.op, A: x, B: y, C: z, Imm: imm}
						if modelRight(i) {
							l = append(l, i)
						}
					}
				}
			}
		}
	}
	return l
}
