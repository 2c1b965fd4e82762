package isa

import (
	"strconv"
	"strings"

	"linchpin/api"
)

const (
	blanks     = " \t" // they may stand between the parts of a line
	register   = "r"   // before the number of a register
	regDigits  = 2     // at most, in the number of a register
	immDigits  = 10    // at most, in Imm
	immNegates = "-"
)

// Text returns the line of an instruction, or "" if it is not right.
func Text(i api.Ins) string {
	if !Right(i) {
		return ""
	}
	var operands []string
	for f, n := range fieldsOf(i) {
		if forms[i.Op].operands.has(f) {
			operands = append(operands, operandText(f, n))
		}
	}
	name := forms[i.Op].name
	if len(operands) == 0 {
		return name
	}
	return name + " " + strings.Join(operands, ", ")
}

// operandText returns an operand as it is written.
func operandText(field, n int) string {
	if field == fieldImm {
		return strconv.Itoa(n)
	}
	return register + strconv.Itoa(n)
}

// Parse returns the right instruction that a line denotes.
func Parse(s string) (api.Ins, api.Errno) {
	name, rest := cutName(s)
	op, ok := opNamed(name)
	if !ok {
		return api.Ins{}, api.ErrForm
	}
	values, ok := parseOperands(rest, forms[op].operands)
	if !ok {
		return api.Ins{}, api.ErrForm
	}
	i := api.Ins{Op: op, A: values[fieldA], B: values[fieldB], C: values[fieldC], Imm: values[fieldImm]}
	if !Right(i) {
		return api.Ins{}, api.ErrRange
	}
	return i, api.OK
}

// cutName returns the first word of a line, and what follows; "" if only blanks do.
func cutName(s string) (name, rest string) {
	s = strings.Trim(s, blanks)
	if end := strings.IndexAny(s, blanks); end >= 0 {
		return s[:end], s[end:]
	}
	return s, ""
}

// parseOperands returns the values of the fields from what stands behind the mnemonic, or false if it is not as written for these operands.
func parseOperands(s string, operands set) ([fields]int, bool) {
	var values [fields]int
	// An operand that is missing is found as an empty one, and one too many in that something is left.
	more := s != ""
	for f := range values {
		if !operands.has(f) {
			continue
		}
		var operand string
		operand, s, more = strings.Cut(s, ",")
		n, ok := parseOperand(f, strings.Trim(operand, blanks))
		if !ok {
			return [fields]int{}, false
		}
		values[f] = n
	}
	return values, !more
}

// parseOperand returns the value of an operand without blanks around it, or false if it is not as written for the field.
func parseOperand(field int, s string) (int, bool) {
	if field != fieldImm {
		number, ok := strings.CutPrefix(s, register)
		// The number 0 has a 0 in front and no other digit.
		if !ok || len(number) > 1 && number[0] == '0' {
			return 0, false
		}
		return parseDigits(number, regDigits)
	}
	if digits, ok := strings.CutPrefix(s, immNegates); ok {
		n, ok := parseDigits(digits, immDigits)
		return -n, ok
	}
	return parseDigits(s, immDigits)
}

// parseDigits returns the number that a string of 1 to most decimal digits denotes, or false if it is no such string.
func parseDigits(s string, most int) (int, bool) {
	if len(s) < 1 || len(s) > most {
		return 0, false
	}
	n := 0
	for i := range len(s) {
		if s[i] < '0' || s[i] > '9' {
			return 0, false
		}
		n = 10*n + int(s[i]-'0')
	}
	return n, true
}
