package asm

import (
	"strconv"
	"strings"
	"testing"

	"linchpin/api"
	"linchpin/isa"
)

// code returns a text with lines in a section of code.
func code(lines string) string {
	return "object a\nsection text code 8\n" + lines
}

// P11.1, P11.5: the number that takes the place of a label.
func TestLabels(t *testing.T) {
	for _, x := range []struct {
		lines string
		want  []string // the instructions
	}{
		{"here x\njump @x", []string{"jump 0"}},
		{"jump @x\nhere x", []string{"jump 8"}},
		{"here x\nnop\nnop\njump @x", []string{"nop", "nop", "jump -16"}},
		{"jump @x\nnop\nhere y\nnop\nhere x\ncall @y", []string{"jump 24", "nop", "nop", "call -8"}},
		{"jump@x\nhere x", nil},
		{"jump  \t@ \tx \t\nhere x", []string{"jump 8"}},
		{"\tzero r3 ,@x\nhere x", []string{"zero r3, 8"}},
		{"addi r1, r2, @0\nhere 0", []string{"addi r1, r2, 8"}},
		{"addi r1, r2, @_\nhere _", []string{"addi r1, r2, 8"}},
		{"addi r1, r2, @nop\nhere nop", []string{"addi r1, r2, 8"}},
		{"addi r1, r2, @x # x\nhere x", nil},
		{"addi r1, r2, @x y\nhere x", nil},
		{"addi r1, r2, @x,\nhere x", nil},
		{"addi r1, r2, @\nhere x", nil},
		{"addi r1, r2, @ \t\nhere x", nil},
		{"addi r1, @x, 8\nhere x", nil},
		{"addi r1, r2, @x@x\nhere x", nil},
		{"addi r1, r2, @@x\nhere x", nil},
		{"addi r1, r2 @x\nhere x", nil},
		{"return @x\nhere x", nil},
		{"@x\nhere x", nil},
		{"add r1, r2, r@x\nhere x", []string{"add r1, r2, r8"}},
		{"add r1, r2, r1@x\nbytes 0000\nhere x", nil}, // r110 is a register in no line
		{"push r@x\nhere x", []string{"push r8"}},
		{"set r1, -@x\nhere x", []string{"set r1, -8"}},
		{"set r1, 1@x\nhere x", []string{"set r1, 18"}},
		{"set r1, 000000001@x\nhere x", []string{"set r1, 18"}},
		{"set r1, @x\nspace 8\nhere x", []string{"set r1, 16", ""}},
		{"bytes 01020304\nset r1, @x\nbytes 01\nhere x\nbytes 020304", []string{"", ""}},
		{"set r1, @x\nsection more code 8\nhere x\njump @x", nil},
		{"set r1, @x\nhere x\nsection more code 8\nhere x", []string{"set r1, 8"}},
		{"set r1, @x\nhere x\nnop\nsection more code 8\nnop\nnop\nhere x\nnop", []string{"set r1, 8", "nop"}},
	} {
		o, e, _ := check(t, code(x.lines))
		if (e == api.OK) != (x.want != nil) {
			t.Errorf("%q: %d", x.lines, e)
			continue
		}
		for i, want := range x.want {
			ins, _ := isa.Decode(o.Secs[0].Bytes, 8*i)
			if got := isa.Text(ins); got != want {
				t.Errorf("%q: %q; want %q", x.lines, got, want)
			}
		}
	}
}

// P11.1: the errors of instructions with labels, and without.
func TestLabelErrors(t *testing.T) {
	ten := "set r1, 123456789@x\n" // with one digit more it is as long as it may be
	checkAll(t, []result{
		{code("jump @x\n"), api.ErrName, 3},
		{code("jump @x\nhere X\n"), api.ErrName, 3},
		{code("jump @x\nsection more code 8\nhere x\n"), api.ErrName, 3},
		{code("here x\nsection more code 8\njump @x\n"), api.ErrName, 5},
		{code("jump @x\nhere x y\n"), api.ErrName, 3},
		{code("jump @x\nsection text code 8\nhere x\n"), api.ErrName, 3}, // another section, though it has the same name
		{code("jump @text\nlabel weak default code 0 text\n"), api.ErrName, 3},
		{code("jump @x-y\nhere x\n"), api.ErrForm, 3},
		{code("jump @\u00e4\n"), api.ErrForm, 3},
		{code("jump @x\x00\nhere x\n"), api.ErrForm, 3},
		{code("jump @x\r\nhere x\n"), api.ErrForm, 3},
		{code("nop @x\nhere x\n"), api.ErrForm, 3},
		{code("jump 4\n"), api.ErrRange, 3},
		{code("jump 99999999999\n"), api.ErrForm, 3},
		{code("jump 9999999999\n"), api.ErrRange, 3},
		{code("move r1, r16\n"), api.ErrRange, 3},
		{code("move r1, r016\n"), api.ErrForm, 3},
		{code("sys 8\n"), api.ErrRange, 3},
		{code("call 512\n"), api.ErrRange, 3},
		{code("call -512\n"), api.OK, 0},
		// With a label, whatever does not fit is out of range.
		{code("jump @x\nbytes 00\nhere x\nspace 7\n"), api.ErrRange, 3},
		{code("here x\nnop\nmove r1, r@x\n"), api.ErrRange, 5},
		{code("move r1, r@x\nnop\nhere x\n"), api.ErrRange, 3}, // register 16
		{code("move r1, r1@x\nhere x\n"), api.ErrRange, 3},     // register 18
		{code("here x\nset r1, -@x\n"), api.OK, 0},
		{code("here x\nnop\nset r1, -@x\n"), api.ErrRange, 5}, // two signs
		{code("here x\nnop\nset r1, 1@x\n"), api.ErrRange, 5},
		{code(ten + "here x\n"), api.OK, 0},
		{code(ten + "nop\nhere x\n"), api.ErrRange, 3},
		{code("call @x\nspace 496\nhere x\n"), api.OK, 0},
		{code("call @x\nspace 504\nhere x\n"), api.ErrRange, 3},
		{code("here x\nspace 512\ncall @x\n"), api.OK, 0},
		{code("here x\nspace 520\ncall @x\n"), api.ErrRange, 5},
		{code("sys @x\nhere x\n"), api.ErrRange, 3},
		{code("here x\nsys @x\n"), api.OK, 0},
		// Lines with errors of names, of numbers and of what is declared twice have their meaning, those that are not well formed do not.
		{code("call @x\njump @y\nspace 496\nhere x\n"), api.ErrRange, 3},
		{code("call @x\njump 4\nspace 496\nhere x\n"), api.ErrRange, 3},
		{code("call @x\njump 4\nspace 488\nhere x\n"), api.ErrRange, 4},
		{code("call @x\njump\nspace 496\nhere x\n"), api.ErrForm, 4},
		{code("call @x\nspace 496\nhere x\nspace 8\nhere x\n"), api.ErrTwice, 7},
		{code("call @x\nspace 504\nhere x\nhere x\n"), api.ErrRange, 3},
		{code("call @x\nsection d odd 8\nspace 496\nhere x\n"), api.ErrForm, 4},
		{code("call @x\nbytes 0g\nspace 496\nhere x\n"), api.ErrForm, 4},
	})
}

// P11.5: pseudo-random code with labels means the same as with numbers.
func TestLabelsAndNumbers(t *testing.T) {
	next := random(11)
	branches := []string{"jump ", "zero r1, ", "nonzero r15,", "addr r3, ", "set r2 , ", "calls ", "jumps\t", "call ", "addi r1, r2, "}
	good := 0
	for range 1500 {
		type line struct {
			text, label string // of an instruction, with the label that it refers to
			here        string // of a label
			size        int
		}
		var l []line
		labels := []string{"a", "b", "c_1", "9", "D"}[:1+next(5)]
		at := map[string]int{}
		for _, name := range labels {
			l = append(l, line{here: name})
		}
		for range 1 + next(30) {
			switch next(4) {
			case 0:
				l = append(l, line{text: []string{"nop", "word 7", "push r1", "return", "#"}[next(5)], size: 8})
				if l[len(l)-1].text == "#" {
					l[len(l)-1].size = 0
				}
			case 1:
				n := 8 * next(3)
				l = append(l, line{text: "space " + strconv.Itoa(n), size: n})
			default:
				l = append(l, line{text: branches[next(len(branches))], label: labels[next(len(labels))], size: 8})
			}
		}
		for i := range l {
			k := next(len(l))
			l[i], l[k] = l[k], l[i]
		}
		end := 0
		for _, x := range l {
			if x.here != "" {
				at[x.here] = end
			}
			end += x.size
		}
		var labelled, numbered strings.Builder
		end = 0
		for _, x := range l {
			switch {
			case x.here != "":
				labelled.WriteString("here " + x.here + "\n")
				numbered.WriteString("# label\n")
			case x.label != "":
				labelled.WriteString(x.text + "@" + x.label + "\n")
				numbered.WriteString(x.text + strconv.Itoa(at[x.label]-end) + "\n")
			default:
				labelled.WriteString(x.text + "\n")
				numbered.WriteString(x.text + "\n")
			}
			end += x.size
		}
		o, e, n := check(t, code(labelled.String()))
		p, f, m := check(t, code(numbered.String()))
		if e != f || n != m || !same(o, p) {
			t.Fatalf("%q: %d, %d; with numbers %d, %d", labelled.String(), e, n, f, m)
		}
		if e == api.OK {
			good++
		}
	}
	if good < 1000 {
		t.Errorf("only %d are good", good)
	}
}
