package isa

import (
	"slices"
	"strconv"
	"strings"
	"testing"

	"linchpin/api"
)

// checkParse compares Parse with a result, which the model has as well.
func checkParse(t *testing.T, m reader, s string) {
	t.Helper()
	want, e := m.parse(s)
	if got, errno := Parse(s); got != want || errno != e {
		t.Fatalf("Parse(%q) = %+v, %v, not %+v, %v", s, got, errno, want, e)
	}
}

// P9.2: lines written out by hand.
func TestTextTable(t *testing.T) {
	for _, x := range []struct {
		i    api.Ins
		want string
	}{
		{api.Ins{Op: api.OpAddImm, A: 1, B: 2, Imm: -1}, "addi r1, r2, -1"}, // the chapter's examples
		{api.Ins{Op: api.OpReturn}, "return"},
		{api.Ins{Op: api.OpNop}, "nop"},
		{api.Ins{Op: api.OpSet}, "set r0, 0"},
		{api.Ins{Op: api.OpSet, A: 15, Imm: -1 << 31}, "set r15, -2147483648"},
		{api.Ins{Op: api.OpHigh, A: 10, Imm: 1<<31 - 1}, "high r10, 2147483647"},
		{api.Ins{Op: api.OpOr, A: 9, B: 0, C: 12}, "or r9, r0, r12"},
		{api.Ins{Op: api.OpPush, A: 14}, "push r14"},
		{api.Ins{Op: api.OpJump, Imm: -800}, "jump -800"},
		{api.Ins{Op: api.OpSys, Imm: 7}, "sys 7"},
		{api.Ins{}, ""},
		{api.Ins{Op: api.OpJump, Imm: 4}, ""},
		{api.Ins{Op: api.OpPush, A: 16}, ""},
		{api.Ins{Op: api.OpNop, C: 1}, ""},
	} {
		if got := Text(x.i); got != x.want {
			t.Errorf("Text(%+v) = %q", x.i, got)
		}
	}
}

// P9.2: lines written out by hand, with their instructions.
func TestParseRight(t *testing.T) {
	m := newReader()
	for s, want := range map[string]api.Ins{
		" load r3,r15 , 08":           {Op: api.OpLoad, A: 3, B: 15, Imm: 8}, // the chapter's example
		"nop":                         {Op: api.OpNop},
		" \t nop\t\t ":                {Op: api.OpNop},
		"set r0,0":                    {Op: api.OpSet},
		"set r0,-0":                   {Op: api.OpSet},
		"set r0,0000000000":           {Op: api.OpSet},
		"set r0,-0000000000":          {Op: api.OpSet},
		"set r10, -0000000012":        {Op: api.OpSet, A: 10, Imm: -12},
		"set\tr10\t,\t2147483647\t":   {Op: api.OpSet, A: 10, Imm: 1<<31 - 1},
		"set r10, -2147483648":        {Op: api.OpSet, A: 10, Imm: -1 << 31},
		"\tset \t r10\t ,\t -0012 \t": {Op: api.OpSet, A: 10, Imm: -12},
		"jump 008":                    {Op: api.OpJump, Imm: 8},
		"add r1,r2,r3":                {Op: api.OpAdd, A: 1, B: 2, C: 3},
		"add  r1 , r2 , r3 ":          {Op: api.OpAdd, A: 1, B: 2, C: 3},
		"call -512":                   {Op: api.OpCall, Imm: -512},
		"call 504":                    {Op: api.OpCall, Imm: 504},
		"sys 07":                      {Op: api.OpSys, Imm: 7},
		"tls r15, r0":                 {Op: api.OpTls, A: 15},
	} {
		if got, e := Parse(s); got != want || e != api.OK {
			t.Errorf("Parse(%q) = %+v, %v", s, got, e)
		}
		checkParse(t, m, s)
	}
}

// P9.2: lines whose instructions are not right.
func TestParseRange(t *testing.T) {
	m := newReader()
	for _, s := range []string{
		"jump 4", "move r1, r16", // the chapter's examples
		"move r16, r1", "move r99, r1", "add r1, r2, r16", "push r16", "push r20", "set r16, 0", "set r99, 9999999999",
		"set r1, 2147483648", "set r1, -2147483649", "set r1, 4294967295", "set r1, 4294967296", "set r1, 9999999999", "set r1, -9999999999",
		"jump 7", "jump -1", "jump 2147483648", "jump -2147483656", "zero r1, 12", "nonzero r1, 1", "calls 4", "jumps 9",
		"call 512", "call -520", "call 505", "call -511", "call 2147483648", "sys 8", "sys -1", "sys 99", "\tsys\t08\t",
	} {
		if got, e := Parse(s); got != (api.Ins{}) || e != api.ErrRange {
			t.Errorf("Parse(%q) = %+v, %v", s, got, e)
		}
		checkParse(t, m, s)
	}
}

// P9.2: strings that are not lines, also where a number is too large.
func TestParseForm(t *testing.T) {
	m := newReader()
	for _, s := range []string{
		"jump", "", " ", "\t", ",", " , ", "\x00", "r1", "8", "-", // the first is the chapter's example
		"Nop", "NOP", "nops", "no", "n op", "nop,", ",nop", "nop ,", "nop r1", "nop 0", "nop nop", "nop;", "nop\n", "\nnop", "nop\r", "nop\v", "nop\u00a0", "nop\x00", "bad", "bad r1",
		"set", "set ", "set r1", "set r1,", "set r1, ", "set ,", "set , 1", "set r1 1", "set r1,, 1", "set r1, 1,", "set ,r1, 1", "set, r1, 1", "set r1, 1, 1", "set r1, 1, r1", "set r1, r1", "set 1, r1", "set 1, 1", "setr1, 1", "set-r1, 1", "set r1; 1", "set r1.1",
		"set r1, 1 1", "set r1, - 1", "set r1, --1", "set r1, +1", "set r1, -", "set r1, 1-", "set r1, 1r", "set r1, 0x1", "set r1, 1_0", "set r1, 1.0", "set r1, 1e1", "set r1, \u0661", "set r1, 00000000000", "set r1, -00000000001", "set r1, 10000000000", "set r1, 99999999999999999999",
		"set r 1, 1", "set r, 1", "set r-1, 1", "set r+1, 1", "set r01, 1", "set r00, 1", "set r100, 1", "set r015, 1", "set r000, 1", "set R1, 1", "set rr1, 1", "set r1x, 1", "set x1, 1", "set 1r, 1", "set r1r, 1", "set r1\n, 1", "set r0 0, 1",
		"move r1", "move r1, r2, r3", "move r1, r2, 0", "move r1, 2", "move r1 r2", "move r01, r1", "move r1, r01", "move r1, r100", "move r16, 5", "move r99, r100",
		"add r1, r2", "add r1, r2,", "add r1, , r2", "add r1, r2, r3, r4", "add r1, r2, 3", "add r1, r2, r3,",
		"addi r1, r2, r3", "addi r1, r2", "load r1, 8, r2", "push", "push 1", "push r1, r2", "jump r1", "jump 8, 8", "jump8", "jump\n8", "jump -", "jump 4,", "call", "callr 8", "calls r1", "sys", "sys r1", "sys 99999999999", "return 0",
	} {
		if got, e := Parse(s); got != (api.Ins{}) || e != api.ErrForm {
			t.Errorf("Parse(%q) = %+v, %v", s, got, e)
		}
		checkParse(t, m, s)
	}
}

// P9.2: registers of up to three digits, and Imms of up to 12 digits.
func TestParseNumbers(t *testing.T) {
	m := newReader()
	var numbers []string
	for n := range 1000 {
		s := strconv.Itoa(n)
		numbers = append(numbers, s, "0"+s, "00"+s, "-"+s)
	}
	for _, s := range numbers {
		for _, line := range []string{"push r" + s, "move r1, r" + s, "add r1, r2, r" + s, "add r" + s + ", r2, r3", "move r" + s + ", r100", "move r16, r" + s, "jump " + s, "sys " + s, "set r3, " + s} {
			checkParse(t, m, line)
		}
	}
	for _, sign := range []string{"", "-", "--", "+", "- "} {
		for _, digit := range []string{"0", "1", "7", "9"} {
			for n := range 24 {
				for _, last := range []string{"", "0", "8", "a"} {
					s := sign + strings.Repeat(digit, n) + last
					checkParse(t, m, "set r1, "+s)
					checkParse(t, m, "jump "+s)
					checkParse(t, m, "push r"+s)
				}
			}
		}
	}
}

// P9.2: all short strings of certain bytes in the places of the operands, and in front of the mnemonic.
func TestParseShort(t *testing.T) {
	m := newReader()
	var all []string
	layer := []string{""}
	for range 6 {
		all = append(all, layer...)
		var longer []string
		for _, s := range layer {
			for _, c := range "r06, -" {
				longer = append(longer, s+string(c))
			}
		}
		layer = longer
	}
	for _, s := range all {
		for _, name := range []string{"nop", "jump", "push", "sys"} {
			checkParse(t, m, name+s)
		}
		checkParse(t, m, "set r1"+s)
		checkParse(t, m, "move r1"+s+"r2")
		checkParse(t, m, "set"+s+"1")
	}
	for _, s := range all[:300] {
		checkParse(t, m, s+"nop")
		checkParse(t, m, s+"push r1")
		checkParse(t, m, s)
	}
}

// P9.2: blanks and other bytes in every place of a line.
func TestParseBlanks(t *testing.T) {
	m := newReader()
	for _, line := range []string{"nop", "push r12", "jump -80", "set r12, -80", "add r1, r2, r13", "store r10,r11,123"} {
		for place := range len(line) + 1 {
			for b := range 256 {
				between := string([]byte{byte(b)})
				checkParse(t, m, line[:place]+between+line[place:])
				checkParse(t, m, line[:place]+between+between+" "+line[place:])
				if place < len(line) {
					checkParse(t, m, line[:place]+between+line[place+1:])
				}
			}
			for _, between := range []string{" \t", strings.Repeat(" \t", 1000), "\u00a0", "\u2003", "\ufeff", "\u0085"} {
				checkParse(t, m, line[:place]+between+line[place:])
			}
			if place < len(line) {
				checkParse(t, m, line[:place]+line[place+1:])
				checkParse(t, m, line[place:])
				checkParse(t, m, line[:place])
			}
		}
	}
}

// P9.2: lines of every Op with too few and too many operands, and with operands of the other kind.
func TestParseOperands(t *testing.T) {
	m := newReader()
	operands := []string{"r1", "r15", "r16", "8", "-16", "5", "", "r"}
	for _, r := range table {
		for _, sep := range []string{",", ", ", " ,", " "} {
			checkParse(t, m, r.name)
			checkParse(t, m, r.name+sep)
			for _, x := range operands {
				checkParse(t, m, r.name+" "+x)
				checkParse(t, m, r.name+x)
				checkParse(t, m, r.name+" "+x+sep)
				for _, y := range operands {
					checkParse(t, m, r.name+" "+x+sep+y)
					for _, z := range operands {
						checkParse(t, m, r.name+" "+x+sep+y+sep+z)
						checkParse(t, m, r.name+" "+x+sep+y+sep+z+sep+"r1")
						checkParse(t, m, r.name+" "+x+sep+y+sep+z+sep)
					}
				}
			}
		}
	}
}

// P9.2: only the mnemonics of the table, also those that begin with others.
func TestParseNames(t *testing.T) {
	m := newReader()
	for _, r := range table {
		for _, name := range []string{strings.ToUpper(r.name), strings.ToUpper(r.name[:1]) + r.name[1:], r.name[1:], r.name[:len(r.name)-1], r.name + r.name, r.name + "s", r.name + "i", r.name + "r", "x" + r.name, r.name + "\x00", r.name + "\n", r.name[:1] + " " + r.name[1:]} {
			for _, rest := range []string{"", " ", " 8", " r1", " r1, 8", " r1, r2", " r1, r2, r3", " r1, r2, 8"} {
				checkParse(t, m, name+rest)
			}
		}
	}
}

// P9.2, P9.5: lines of right instructions with pseudo-random blanks, and with pseudo-random changes.
func TestParseRandom(t *testing.T) {
	m := newReader()
	next := random(90)
	some := someRight()
	counts := map[api.Errno]int{}
	for range 60000 {
		i := some[next(len(some))]
		text := modelText(i)
		blank := func() string { return strings.Repeat(" ", next(3)) + strings.Repeat("\t", next(2)) }
		name, operands, _ := strings.Cut(text, " ")
		line := blank() + name
		for k, s := range strings.Split(operands, ", ") {
			line += []string{" ", ","}[min(k, 1)] + blank() + s + blank()
		}
		if got, e := Parse(line); got != i || e != api.OK {
			t.Fatalf("Parse(%q) = %+v, %v", line, got, e)
		}
		changed := []byte(line)
		for range 1 + next(2) {
			place := next(len(changed))
			c := "rr0123456789--,,  \tx\n"[next(21)]
			switch next(3) {
			case 0:
				changed[place] = c
			case 1:
				changed = slices.Insert(changed, place, c)
			case 2:
				changed = slices.Insert(slices.Delete(changed, place, place+1), 0, ' ')
			}
		}
		checkParse(t, m, string(changed))
		_, e := Parse(string(changed))
		counts[e]++
	}
	if counts[api.OK] < 1000 || counts[api.ErrForm] < 1000 || counts[api.ErrRange] < 1000 {
		t.Errorf("%v", counts)
	}
}

// P9.2: very long strings, which are no lines but for their blanks.
func TestParseLong(t *testing.T) {
	const n = 1 << 22
	blanks := strings.Repeat(" \t", n)
	if got, e := Parse(blanks + "set" + blanks + "r1" + blanks + "," + blanks + "5" + blanks); got != (api.Ins{Op: api.OpSet, A: 1, Imm: 5}) || e != api.OK {
		t.Errorf("%+v, %v", got, e)
	}
	for _, s := range []string{blanks, "nop" + strings.Repeat(",", n), "set r1" + strings.Repeat(",", n), "set r1, " + strings.Repeat("1", n), "set r" + strings.Repeat("1", n) + ", 1", strings.Repeat("nop", n), strings.Repeat("nop ", n), strings.Repeat("r1,", n), "add " + strings.Repeat("r1,", n), strings.Repeat("-", n)} {
		if got, e := Parse(s); got != (api.Ins{}) || e != api.ErrForm {
			t.Errorf("Parse(%q..) = %+v, %v", s[:8], got, e)
		}
	}
}
