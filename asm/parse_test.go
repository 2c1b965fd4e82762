package asm

import (
	"reflect"
	"runtime"
	"strconv"
	"strings"
	"testing"

	"linchpin/api"
	"linchpin/object"
)

// whole is a text with all forms of lines, and no errors.
const whole = `# all forms

object whole
section text code 16 keep
here begin
label global protected code 16 f V1
 set r1, @end
	rel call -8 g
call 0
jump @begin
here end
bytes 0000000000000000
word 1
return
section data data 8
here begin
word -2
rel word 4 x V2
space 8
bytes 6162636465666768
section zero zero 4
space 8
label weak hidden data 4 y
space 4
section t tls 1
bytes 01ff
section tz tlszero 8 keep
space 8
section more code 8
nop
  # not a line
main weak default code text 8 8 f V2
def local default data data 0 8 d
def global hidden tls tz 4 4 e
common hidden 24 8 c
ref global default code g
ref weak protected data x V2
group g1 zero text
group g2 data
init -5 f V1
last 7 g
line text 0 3 a b.c
line text 8 4 #x
inline text 0 48 9 inl  c
inline text 8 16 10 inl c
var text 0 8 reg 3 v
var text 0 8 stack 16 w
var text 8 16 sym z x V2
var text 8 16 sym zz d
depth text 0 16 8
convert data 000102030405060708090a0b0c0d0e0f000102030405060708090a0b0c0d0e0f
convert data 000102030405060708090a0b0c0d0e0fff0102030405060708090a0b0c0d0e0f
piece 0 8 0
piece 16 4 8
by f V1
`

// wholeObject is the object that whole describes.
func wholeObject() api.Object {
	word := func(s string) string { return s + strings.Repeat("\x00", 8-len(s)) }
	digits := "\x00\x01\x02\x03\x04\x05\x06\x07\x08\x09\x0a\x0b\x0c\x0d\x0e\x0f"
	return api.Object{
		Name: "whole",
		Secs: []api.Section{
			{Name: "text", Kind: api.SkCode, Align: 16, Size: 48, Keep: true, Bytes: "\x03\x01\x00\x00\x18\x00\x00\x00" + word("\x16") + "\x13\x00\x00\x00\xf0\xff\xff\xff" + word("") + word("\x01") + word("\x1a")},
			{Name: "data", Kind: api.SkData, Align: 8, Size: 24, Bytes: "\xfe\xff\xff\xff\xff\xff\xff\xff" + word("") + "abcdefgh"},
			{Name: "zero", Kind: api.SkZero, Align: 4, Size: 12},
			{Name: "t", Kind: api.SkTls, Align: 1, Size: 2, Bytes: "\x01\xff"},
			{Name: "tz", Kind: api.SkTlsZero, Align: 8, Size: 8, Keep: true},
			{Name: "more", Kind: api.SkCode, Align: 8, Size: 8, Bytes: word("\x01")},
		},
		Syms: []api.Symbol{
			{Name: "f", Version: "V1", Bind: api.BdGlobal, Vis: api.ViProtected, Kind: api.SyCode, Sec: 0, At: 0, Size: 16},
			{Name: "y", Bind: api.BdWeak, Vis: api.ViHidden, Kind: api.SyData, Sec: 2, At: 8, Size: 4},
			{Name: "f", Version: "V2", Main: true, Bind: api.BdWeak, Vis: api.ViDefault, Kind: api.SyCode, Sec: 0, At: 8, Size: 8},
			{Name: "d", Bind: api.BdLocal, Vis: api.ViDefault, Kind: api.SyData, Sec: 1, At: 0, Size: 8},
			{Name: "e", Bind: api.BdGlobal, Vis: api.ViHidden, Kind: api.SyTls, Sec: 4, At: 4, Size: 4},
			{Name: "c", Bind: api.BdCommon, Vis: api.ViHidden, Kind: api.SyData, Sec: -1, Size: 24, Align: 8},
			{Name: "g", Bind: api.BdGlobal, Vis: api.ViDefault, Kind: api.SyCode, Sec: -1},
			{Name: "x", Version: "V2", Bind: api.BdWeak, Vis: api.ViProtected, Kind: api.SyData, Sec: -1},
		},
		Rels:   []api.Rel{{Sec: 0, At: 8, Kind: api.RkCall, Sym: 6, Add: -8}, {Sec: 1, At: 8, Kind: api.RkWord, Sym: 7, Add: 4}},
		Groups: []api.Group{{Name: "g1", Secs: []int{0, 2}}, {Name: "g2", Secs: []int{1}}},
		Inits:  []api.Init{{Sym: 0, Order: -5}, {Sym: 6, Order: 7, Last: true}},
		Lines:  []api.Line{{Sec: 0, At: 0, Line: 3, File: "a b.c"}, {Sec: 0, At: 8, Line: 4, File: "#x"}},
		Inlines: []api.Inline{
			{Sec: 0, From: 0, To: 48, Line: 9, Name: "inl", File: " c"},
			{Sec: 0, From: 8, To: 16, Line: 10, Name: "inl", File: "c"},
		},
		Vars: []api.Var{
			{Sec: 0, From: 0, To: 8, Name: "v", Where: api.LoReg, N: 3},
			{Sec: 0, From: 0, To: 8, Name: "w", Where: api.LoStack, N: 16},
			{Sec: 0, From: 8, To: 16, Name: "z", Where: api.LoSym, N: 7},
			{Sec: 0, From: 8, To: 16, Name: "zz", Where: api.LoSym, N: 3},
		},
		Depths: []api.Depth{{Sec: 0, From: 0, To: 16, Bytes: 8}},
		Converts: []api.Convert{
			{Sec: 1, From: digits + digits, Code: -1},
			{Sec: 1, From: digits + "\xff" + digits[1:], Pieces: []api.Piece{{From: 0, Size: 8, To: 0}, {From: 16, Size: 4, To: 8}}, Code: 0},
		},
	}
}

// check compares Parse with the model, and what it returns with what Write and Parse make of it.
func check(t *testing.T, s string) (api.Object, api.Errno, int) {
	t.Helper()
	want, wantErr, wantLine := modelParse(s)
	o, e, line := Parse(s)
	if e != wantErr || line != wantLine || !same(o, want) {
		t.Fatalf("Parse(%q) is %+v, %d, %d; want %+v, %d, %d", s, o, e, line, want, wantErr, wantLine)
	}
	if e != api.OK {
		return o, e, line
	}
	text := Write(o)
	if again, e, line := Parse(text); e != api.OK || line != 0 || !same(again, o) {
		t.Fatalf("Parse(%q) is %+v, %d, %d; want %+v", text, again, e, line, o)
	}
	return o, e, line
}

// P11.1: a text with all forms of lines.
func TestWhole(t *testing.T) {
	want := wholeObject()
	if !object.Right(want) {
		t.Fatal("not right")
	}
	if o, e, line := check(t, whole); e != api.OK || line != 0 || !same(o, want) {
		t.Errorf("%+v, %d, %d; want %+v", o, e, line, want)
	}
	if o, e, line := check(t, strings.TrimSuffix(whole, "\n")); e != api.OK || line != 0 || !same(o, want) {
		t.Errorf("without the last line feed: %+v, %d, %d", o, e, line)
	}
}

// P11.1: the document's example.
func TestExample(t *testing.T) {
	lines := strings.Split(`object a
section text code 8
here loop
nop
rel call 0 f
call 0
jump @loop
section data data 8 keep
rel word 4 buf V1
word 0
def global default code text 0 24 main
ref weak default code f
ref global default data buf V1
`, "\n")
	with := func(i int, l string) string {
		return strings.Join(append(append(append([]string{}, lines[:i-1]...), l), lines[i:]...), "\n")
	}
	without := func(i int) string {
		return strings.Join(append(append([]string{}, lines[:i-1]...), lines[i:]...), "\n")
	}
	o, e, line := check(t, strings.Join(lines, "\n"))
	if e != api.OK || line != 0 || o.Secs[0].Bytes != "\x01\x00\x00\x00\x00\x00\x00\x00\x16\x00\x00\x00\x00\x00\x00\x00\x13\x00\x00\x00\xf0\xff\xff\xff" {
		t.Errorf("%+v, %d, %d", o, e, line)
	}
	if !reflect.DeepEqual(o.Rels, []api.Rel{{Sec: 0, At: 8, Kind: api.RkCall, Sym: 1}, {Sec: 1, At: 0, Kind: api.RkWord, Sym: 2, Add: 4}}) {
		t.Errorf("%+v", o.Rels)
	}
	if _, e, line := check(t, with(7, "jump @here")); e != api.ErrName || line != 7 {
		t.Errorf("@here: %d, %d", e, line)
	}
	if _, e, line := check(t, with(8, "section data data x")); e != api.ErrForm || line != 8 {
		t.Errorf("x: %d, %d", e, line)
	}
	if _, e, line := check(t, without(8)); e != api.ErrArg || line != 0 {
		t.Errorf("without the second section: %d, %d", e, line)
	}
}

// begin is the beginning of a text, of three lines.
const begin = "object a\nsection text code 8\nnop\n"

// result is what Parse says of a text.
type result struct {
	s    string
	e    api.Errno
	line int
}

// checkAll checks the results of several texts.
func checkAll(t *testing.T, l []result) {
	t.Helper()
	for _, x := range l {
		if o, e, line := check(t, x.s); e != x.e || line != x.line || e != api.OK && !same(o, api.Object{}) {
			t.Errorf("%q: %+v, %d, %d; want %d, %d", x.s, o, e, line, x.e, x.line)
		}
	}
}

// P11.1: texts without lines, and their first lines.
func TestFirstLine(t *testing.T) {
	checkAll(t, []result{
		{"", api.ErrForm, 0},
		{"\n", api.ErrForm, 0},
		{" \n\t\n\n", api.ErrForm, 0},
		{"#", api.ErrForm, 0},
		{"# object a\n", api.ErrForm, 0},
		{" \t #object a", api.ErrForm, 0},
		{"object a", api.OK, 0},
		{"object a\n", api.OK, 0},
		{"object a\n\n", api.OK, 0},
		{"\n#x\n \tobject\t a \n", api.OK, 0},
		{"object #", api.OK, 0},
		{"object object\n", api.OK, 0},
		{"object", api.ErrForm, 1},
		{"object ", api.ErrForm, 1},
		{"object a b", api.ErrForm, 1},
		{"object a #", api.ErrForm, 1},
		{"\n\nobject\n", api.ErrForm, 3},
		{"a", api.ErrForm, 1},
		{"Object a", api.ErrForm, 1},
		{"section a code 8", api.ErrForm, 1},
		{"section a code 8\nobject a\n", api.ErrForm, 1},
		{"odd\nobject a\n", api.ErrForm, 1},
		{"object\nobject a\n", api.ErrForm, 1},
		{"object a\nobject a\n", api.ErrForm, 2},
		{"object a\n\nobject b", api.ErrForm, 3},
		{"object a\nobject\n", api.ErrForm, 2},
		{"object a\r\n", api.ErrArg, 0}, // a name with a carriage return is none
		{"object \x00\n", api.ErrArg, 0},
		{"object \xff\n", api.ErrArg, 0},
		{"object " + strings.Repeat("a", 64), api.OK, 0},
		{"object " + strings.Repeat("a", 65), api.ErrArg, 0},
		{"object a\u00a0b\n", api.ErrArg, 0}, // only spaces and tabs are blanks
		{"object a\vb\n", api.ErrArg, 0},
		{"\vobject a\n", api.ErrForm, 1},
		{"\ufeffobject a\n", api.ErrForm, 1},
	})
}

// P11.1, P11.5: lines are counted with those that are blank, whose words begin with # or are missing.
func TestBlankLines(t *testing.T) {
	blank := []string{"", " ", "\t", " \t \t", "#", "# odd", "\t #odd", "#object b", "##", "#\x00\xff"}
	lines := strings.Split(whole, "\n")
	want := wholeObject()
	for _, b := range blank {
		for i := range lines {
			s := strings.Join(lines[:i], "\n") + "\n" + b + "\n" + strings.Join(lines[i:], "\n")
			if o, e, line := Parse(s); e != api.OK || line != 0 || !same(o, want) {
				t.Errorf("%q behind %d lines: %d, %d", b, i, e, line)
			}
		}
		n := len(blank)
		if _, e, line := check(t, begin+strings.Join(blank, "\n")+"\nodd\n"); e != api.ErrForm || line != 4+n {
			t.Errorf("%d, %d", e, line)
		}
		if _, e, line := check(t, "\n"+b+"\n"+begin+"\n"+b+"\n\nodd"); e != api.ErrForm || line != 9 {
			t.Errorf("%q: %d, %d", b, e, line)
		}
	}
}

// P11.1: words are separated by spaces and tabs only.
func TestWords(t *testing.T) {
	want := wholeObject()
	for _, blank := range []string{"  ", "\t", " \t", "\t\t \t"} {
		var l []string
		for _, s := range strings.Split(whole, "\n") {
			if !strings.HasPrefix(s, "line") && !strings.HasPrefix(s, "inline") {
				s = blank + strings.ReplaceAll(s, " ", blank) + blank
			}
			l = append(l, s)
		}
		if o, e, line := check(t, strings.Join(l, "\n")); e != api.OK || line != 0 || !same(o, want) {
			t.Errorf("%q: %d, %d", blank, e, line)
		}
	}
	for _, odd := range []string{"\r", "\v", "\f", "\x00", "\u00a0", "\u2003", ",", ":", ";"} {
		checkAll(t, []result{
			{begin + "space" + odd + "8\n", api.ErrForm, 4},
			{begin + "space 8" + odd + "\n", api.ErrForm, 4},
			{begin + odd + "space 8\n", api.ErrForm, 4},
			{begin + "nop" + odd + "\n", api.ErrForm, 4},
			{begin + odd + "\n", api.ErrForm, 4},
			{begin + "section x data 8 keep" + odd, api.ErrForm, 4},
			{begin + "ref weak default code f" + odd + "V1\n", map[bool]api.Errno{true: api.ErrArg, false: api.OK}[odd < " " || odd > "~"], 0},
		})
	}
}

// P11.1: numbers, in all places where they stand.
func TestNumbers(t *testing.T) {
	good := []string{"0", "1", "-1", "7", "9", "10", "100", "-10", "9223372036854775807", "-9223372036854775808", "1048576"}
	bad := []string{"", "-", "+", "+1", "+0", "-0", "00", "01", "-01", "0x1", "1_0", "1.0", "1e3", "--1", "1-", "9223372036854775808", "-9223372036854775809", "99999999999999999999", "a", "０", "1\x00", "O", "0b1", "1,", "١", "18446744073709551616"}
	for i, x := range []struct {
		line string // with N for the number
		e    api.Errno
	}{
		{"section x data N", api.ErrArg},
		{"word N", api.OK},
		{"rel word N f", api.ErrArg},
		{"def global default code text N 0 g", api.ErrArg},
		{"def global default code text 0 N g", api.ErrArg},
		{"main global default code text N 0 g V", api.ErrArg},
		{"main global default code text 0 N g V", api.ErrArg},
		{"label global default code N g", api.ErrArg},
		{"common default N 8 c", api.ErrArg},
		{"common default 8 N c", api.ErrArg},
		{"init N f", api.ErrArg},
		{"last N f", api.ErrArg},
		{"line text N 1 x", api.ErrArg},
		{"line text 0 N x", api.ErrArg},
		{"inline text N 8 1 x x", api.ErrArg},
		{"inline text 0 N 1 x x", api.ErrArg},
		{"inline text 0 8 N x x", api.ErrArg},
		{"var text N 8 reg 1 x", api.ErrArg},
		{"var text 0 N reg 1 x", api.ErrArg},
		{"var text 0 8 reg N x", api.ErrArg},
		{"var text 0 8 stack N x", api.ErrArg},
		{"var text N 8 sym x f", api.ErrArg},
		{"var text 0 N sym x f", api.ErrArg},
		{"depth text N 8 8", api.ErrArg},
		{"depth text 0 N 8", api.ErrArg},
		{"depth text 0 8 N", api.ErrArg},
		{"convert data 00\npiece N 8 0", api.ErrArg},
		{"convert data 00\npiece 0 N 0", api.ErrArg},
		{"convert data 00\npiece 0 8 N", api.ErrArg},
	} {
		first := begin + "ref weak default code f\nsection data data 8\nsection text2 code 8\n"
		at := 7 + strings.Count(x.line, "\n")
		for _, n := range good {
			if _, e, _ := check(t, first+strings.Replace(x.line, "N", n, 1)); e != x.e && e != api.OK && e != api.ErrArg {
				t.Errorf("%d: %q: %d", i, n, e)
			}
		}
		for _, n := range bad {
			if _, e, line := check(t, first+strings.Replace(x.line, "N", n, 1)); e != api.ErrForm || line != at {
				t.Errorf("%d: %q: %d, %d", i, n, e, line)
			}
		}
	}
	for n, bytes := range map[int]string{0: "\x00\x00\x00\x00\x00\x00\x00\x00", -1: "\xff\xff\xff\xff\xff\xff\xff\xff", 1<<63 - 1: "\xff\xff\xff\xff\xff\xff\xff\x7f", -1 << 63: "\x00\x00\x00\x00\x00\x00\x00\x80", 0x0102030405060708: "\x08\x07\x06\x05\x04\x03\x02\x01"} {
		if o, e, _ := check(t, "object a\nsection d tls 1\nword "+strconv.Itoa(n)); e != api.OK || o.Secs[0].Bytes != bytes {
			t.Errorf("%d: %+v", n, o.Secs)
		}
	}
}

// P11.1: every byte in labels, numbers, hexadecimal digits and names.
func TestEveryCharacter(t *testing.T) {
	const letters = "0123456789ABCDEFGHIJKLMNOPQRSTUVWXYZ_abcdefghijklmnopqrstuvwxyz"
	for b := range 256 {
		c := string([]byte{byte(b)})
		if strings.Contains(" \t\n", c) {
			continue
		}
		is := func(of string) api.Errno {
			if strings.Contains(of, c) {
				return api.OK
			}
			return api.ErrForm
		}
		for _, label := range []string{c, "x" + c, c + "9"} {
			for _, s := range []string{begin + "here " + label + "\n", "object a\nsection text code 8\nhere x\njump @" + label + "\nhere " + label + "z\n"} {
				if _, e, _ := check(t, s); (e == api.ErrForm) != (is(letters) == api.ErrForm) {
					t.Errorf("%q: %d", s, e)
				}
			}
		}
		for _, s := range []string{"word " + c, "word 1" + c, "word -1" + c} {
			if _, e, _ := check(t, begin+s); e != is("0123456789") {
				t.Errorf("%q: %d", s, e)
			}
		}
		for _, s := range []string{"bytes 00000000000000" + c + "0", "bytes 000000000000000" + c} {
			if _, e, _ := check(t, begin+s); e != is("0123456789abcdef") {
				t.Errorf("%q: %d", s, e)
			}
		}
		if _, e, _ := check(t, begin+"ref weak default code f"+c); (e == api.OK) != (b > 32 && b < 127) {
			t.Errorf("%q: %d", c, e)
		}
	}
}

// P11.1: each word for each constant.
func TestTerms(t *testing.T) {
	for i, w := range []string{"code", "data", "zero", "tls", "tlszero"} {
		if o, e, _ := check(t, "object a\nsection s "+w+" 8\n"); e != api.OK || o.Secs[0].Kind != []int{api.SkCode, api.SkData, api.SkZero, api.SkTls, api.SkTlsZero}[i] {
			t.Errorf("%s: %+v, %d", w, o, e)
		}
	}
	for i, w := range []string{"local", "global", "weak"} {
		if o, e, _ := check(t, "object a\nsection s code 8\ndef "+w+" default code s 0 0 f\n"); e != api.OK || o.Syms[0].Bind != []int{api.BdLocal, api.BdGlobal, api.BdWeak}[i] {
			t.Errorf("%s: %+v, %d", w, o, e)
		}
	}
	for i, w := range []string{"default", "protected", "hidden"} {
		if o, e, _ := check(t, "object a\nref weak "+w+" code f\n"); e != api.OK || o.Syms[0].Vis != []int{api.ViDefault, api.ViProtected, api.ViHidden}[i] {
			t.Errorf("%s: %+v, %d", w, o, e)
		}
	}
	for i, w := range []string{"code", "data", "tls"} {
		if o, e, _ := check(t, "object a\nref weak default "+w+" f\n"); e != api.OK || o.Syms[0].Kind != []int{api.SyCode, api.SyData, api.SyTls}[i] {
			t.Errorf("%s: %+v, %d", w, o, e)
		}
	}
	kinds := []int{api.RkWord, api.RkDiff, api.RkDiff4, api.RkDelta, api.RkSize, api.RkModule, api.RkOffset, api.RkAddr, api.RkCall, api.RkSlot, api.RkLow, api.RkHigh, api.RkTls}
	for i, w := range []string{"word", "diff", "diff4", "delta", "size", "module", "offset", "addr", "call", "slot", "low", "high", "tls"} {
		s := "object a\nref weak default code f\nsection d data 8\nsection c code 8\n"
		if i < 7 {
			s = strings.Replace(s, "section c", "rel "+w+" 5 f\nword 0\nsection c", 1)
		} else {
			s += "rel " + w + " 5 f\n" + []string{"jump 0", "call 0", "calls 0", "set r1, 0", "high r1, 0", "addi r1, r2, 0"}[i-7]
		}
		if o, e, _ := check(t, s); e != api.OK || o.Rels[0].Kind != kinds[i] || o.Rels[0].Add != 5 {
			t.Errorf("%s: %+v, %d", w, o, e)
		}
	}
	for _, s := range []string{"section s odd 8", "section s Code 8", "section s tlsz 8", "ref common default code f", "ref weak public code f", "ref weak default zero f", "ref weak default tlszero f", "ref default weak code f", "section s word 8"} {
		checkAll(t, []result{{begin + s, api.ErrForm, 4}})
	}
	checkAll(t, []result{{begin + "rel odd 0 f", api.ErrForm, 4}, {begin + "rel diff8 0 f", api.ErrForm, 4}, {begin + "var text 0 8 mem 0 v", api.ErrForm, 4}})
}

// P11.1: the words of each line; too few, and too many.
func TestFormErrors(t *testing.T) {
	for _, s := range []string{
		"odd", "section", "section x", "section x code", "section x code 8 kept", "section x code 8 keep keep", "section x code 8 keep 0", "section code 8",
		"bytes", "bytes 0", "bytes 0A", "bytes 0a0", "bytes 0g", "bytes 00 00", "bytes -1", "word", "word 1 1", "word x",
		"space", "space -1", "space 1048577", "space 1 1", "space 00", "here", "here a-b", "here a b", "here @a", "here a@", "here \u00e4", "here #", "here a.b",
		"rel", "rel call", "rel call 0", "rel 0 f", "rel call f", "rel call 0 f V x", "Nop", "nop 1", "nops", "set r1", "set r1 1", "set 1, r1", "jump", "move r1",
		"def", "def global default code text 0 8", "def global default code text 0 f", "def global default code text 0 8 f V x", "def default global code text 0 8 f",
		"def common default data text 0 8 f", "main global default code text 0 8", "main global default code text 0 8 f V x", "mains global default code text 0 8 f V",
		"label", "label global default code 8", "label global default code f", "label global default code 8 f V x", "label global default code text 8 f V x",
		"common", "common default 8 8", "common default 8 c", "common default 8 8 c V", "common weak default 8 8 c", "ref", "ref weak default code", "ref weak code f", "ref weak default code f V x",
		"group", "group g", "init", "init 1", "init f", "init 1 f V x", "last", "last 1", "last 1 f V x",
		"line", "line text", "line text 0", "line text 0 1", "line text 0 1 ", "line text 0 1\t", "line text x 1 f", "inline text 0 8 1", "inline text 0 8 1 x", "inline text 0 8 1 x ", "inline text 0 8 x 1 f",
		"var text 0 8 reg", "var text 0 8 reg 1", "var text 0 8 reg v 1", "var text 0 8 reg 1 v x", "var text 0 8 stack 8", "var text 0 8 stack 8 v x", "var text 0 8 sym", "var text 0 8 sym v", "var text 0 8 sym v f V x", "var text 0 8",
		"depth text 0 8", "depth text 0 8 8 8", "depth 0 8 8", "convert", "convert text", "convert text 0", "convert text 00 00", "convert text 0A", "convert text zz",
		"piece 0 8 0", "by f", "piece", "by",
	} {
		checkAll(t, []result{{begin + s, api.ErrForm, 4}, {begin + " " + s + "\nodd\n", api.ErrForm, 4}})
	}
	for _, s := range []string{"piece", "piece 0 8", "piece 0 8 0 0", "piece f 8 0", "by", "by f V x"} {
		checkAll(t, []result{{begin + "convert text 00\n" + s, api.ErrForm, 5}})
	}
}

// P11.1: lines that need a section, or one of some kinds; and a converter.
func TestNeeds(t *testing.T) {
	in := map[string]string{"nop": "code", "jump @x": "code", "set r1, 9999999999": "code", "bytes 00": "code data tls", "word 1": "code data tls", "space 1": "code data zero tls tlszero", "here x": "code data zero tls tlszero", "rel word 0 f": "code data zero tls tlszero", "label weak default code 0 f": "code data zero tls tlszero"}
	for line, kinds := range in {
		if _, e, n := check(t, "object a\n"+line+"\n"); e != api.ErrForm || n != 2 {
			t.Errorf("%s: %d, %d", line, e, n)
		}
		if _, e, n := check(t, "object a\nsection s odd 8\n"+line+"\n"); e != api.ErrForm || n != 2 {
			t.Errorf("%s: %d, %d", line, e, n)
		}
		if _, e, n := check(t, "object a\n"+line+"\nsection s code 8\n"); e != api.ErrForm || n != 2 {
			t.Errorf("%s: %d, %d", line, e, n)
		}
		for _, kind := range []string{"code", "data", "zero", "tls", "tlszero"} {
			_, e, n := check(t, "object a\nsection first data 8\nsection second code 8\nsection s "+kind+" 8\n"+line+"\n")
			well := strings.Contains(" "+kinds+" ", " "+kind+" ")
			if well == (e == api.ErrForm) || !well && n != 5 {
				t.Errorf("%s in %s: %d, %d", line, kind, e, n)
			}
		}
	}
	checkAll(t, []result{
		{begin + "piece 0 1 0\nconvert text 00\n", api.ErrForm, 4},
		{begin + "by f\nconvert text 00\n", api.ErrForm, 4},
		{begin + "convert text 0\npiece 0 1 0\n", api.ErrForm, 4},
		{begin + "convert none 00\npiece 0 1\n", api.ErrName, 4},
		{begin + "convert text 00\npiece 0 1\n", api.ErrForm, 5},
	})
}

// P11.1: what is declared twice.
func TestTwice(t *testing.T) {
	checkAll(t, []result{
		{begin + "section text code 8\n", api.ErrTwice, 4},
		{begin + "section text data 1 keep\n", api.ErrTwice, 4},
		{begin + "section d data 8\nsection text code 8\n", api.ErrTwice, 5},
		{begin + "section Text code 8\n", api.OK, 0},
		{begin + "section odd odd 8\nsection odd code 8\n", api.ErrForm, 4},
		{begin + "here x\nhere x\n", api.ErrTwice, 5},
		{begin + "here x\nnop\nhere x\n", api.ErrTwice, 6},
		{begin + "here x\nhere X\nhere _\nhere 0\nhere Zz9\n", api.OK, 0},
		{begin + "here x\nsection d code 8\nhere x\n", api.OK, 0},
		{begin + "here text\nlabel global default code 0 text\n", api.OK, 0},
		{begin + "ref weak default code f\nref weak default code f\n", api.ErrTwice, 5},
		{begin + "ref weak default code f\nref weak default code f V1\nref weak default code f V2\nref weak default code V1\n", api.OK, 0},
		{begin + "ref weak default code f V1\nref global hidden data f V1\n", api.ErrTwice, 5},
		{begin + "ref weak default code f\ndef weak default code text 0 0 f\n", api.ErrTwice, 5},
		{begin + "def weak default code text 0 0 f\nmain weak default code text 0 0 f V\nlabel weak default code 0 f V\n", api.ErrTwice, 6},
		{begin + "main weak default code text 0 0 f V\nmain weak default code text 0 0 f V\n", api.ErrTwice, 5},
		{begin + "label weak default code 0 f\nlabel weak default code 0 f\n", api.ErrTwice, 5},
		{begin + "common default 8 8 f\nref weak default code f V1\nref weak default code f\n", api.ErrTwice, 6},
		{begin + "ref weak default code f\ncommon default 8 8 f\n", api.ErrTwice, 5},
		{begin + "ref weak default code f V1\ncommon default 8 8 f\n", api.OK, 0},
		{begin + "common default 8 8 f\ncommon default 8 8 f\n", api.ErrTwice, 5},
		{begin + "ref weak odd code f\nref weak default code f\n", api.ErrForm, 4},
		{begin + "def weak default code none 0 0 f\nref weak default code f\n", api.ErrName, 4},
		{begin + "group g text\ngroup g text\n", api.ErrArg, 0},
		{begin + "init 1 f\ninit 1 f\nref weak default code f\n", api.OK, 0},
		// Both errors: the first one counts.
		{begin + "ref weak default code f\ndef weak default code none 0 0 f\n", api.ErrTwice, 5},
	})
}

// P11.1: a section with too many bytes.
func TestFull(t *testing.T) {
	full := func(kind string, n int, line string) string {
		return "object a\nsection s " + kind + " 8\nspace " + strconv.Itoa(n) + "\n" + line + "\n"
	}
	const most = api.MaxSize
	checkAll(t, []result{
		{full("data", most, ""), api.OK, 0},
		{full("data", most, "space 0"), api.OK, 0},
		{full("data", most, "space 1"), api.ErrFull, 4},
		{full("data", most, "space 1048576"), api.ErrFull, 4},
		{full("data", most, "bytes 00"), api.ErrFull, 4},
		{full("data", most, "word 0"), api.ErrFull, 4},
		{full("data", most-1, "bytes 00"), api.OK, 0},
		{full("data", most-1, "bytes 0000"), api.ErrFull, 4},
		{full("tls", most-8, "word 0"), api.OK, 0},
		{full("tls", most-7, "word 0"), api.ErrFull, 4},
		{full("code", most-8, "nop"), api.OK, 0},
		{full("code", most, "nop"), api.ErrFull, 4},
		{full("code", most-7, "nop"), api.ErrFull, 4},
		{full("zero", most, "space 0"), api.OK, 0},
		{full("zero", most, "space 1"), api.ErrFull, 4},
		{full("tlszero", 1, "space 1048576"), api.ErrFull, 4},
		{full("zero", most-1, "space 1\nspace 1"), api.ErrFull, 5},
		{full("zero", most, "section z2 zero 8\nspace 1048576"), api.OK, 0},
		{full("zero", most, "here x\nlabel global default data 0 f"), api.OK, 0},
		// Both errors: the first one counts. A line that is full adds nothing.
		{full("code", most, "jump @x"), api.ErrFull, 4},
		{full("code", most, "jump 4"), api.ErrFull, 4},
		{full("code", most, "odd"), api.ErrForm, 4},
		{full("code", most-8, "call @x\nspace 16\nhere x"), api.ErrFull, 5},
		{full("code", most-8, "call @x\nspace 512\nnop\nhere x"), api.ErrFull, 5},
		{"object a\nsection s code 8\ncall @x\nspace 1048576\nspace 496\nhere x\n", api.ErrFull, 4},
		{"object a\nsection s code 8\ncall @x\nspace 1048576\nspace 504\nhere x\n", api.ErrRange, 3},
	})
	if o, e, _ := Parse(full("data", most-2, "bytes 4142")); e != api.OK || o.Secs[0].Size != most || !strings.HasSuffix(o.Secs[0].Bytes, "\x00AB") || len(o.Secs[0].Bytes) != most {
		t.Error(e)
	}
}

// P11.1: names that no line declares, and names that a later line declares.
func TestNames(t *testing.T) {
	ref := "ref weak default code f V1\nref weak default data d V1\n"
	for _, s := range []string{"rel call 0 F\ncall 0", "init 1 F", "last 1 F", "var text 0 8 sym v D", "convert data " + strings.Repeat("00", 32) + "\nby F"} {
		name := func(f, d string) string {
			return strings.Replace(strings.Replace(s, "F", f, 1), "D", d, 1)
		}
		at := 4 + strings.Count(s[:strings.IndexAny(s, "FD")], "\n")
		more := "\nsection data data 8\n"
		checkAll(t, []result{
			{begin + name("f V1", "d V1") + more + ref, api.OK, 0},
			{"object a\n" + ref + "section data data 8\n" + begin[9:] + name("f V1", "d V1"), api.OK, 0},
			{begin + name("f", "d") + more + ref, api.ErrName, at},
			{begin + name("f V2", "d V2") + more + ref, api.ErrName, at},
			{begin + name("V1", "V1") + more + ref, api.ErrName, at},
			{begin + name("text", "data") + more + ref, api.ErrName, at},
			{begin + name("f V1", "d V1") + more, api.ErrName, at},
			{begin + name("f V1", "d V1") + more + "ref odd default code f V1\nref odd default data d V1\n", api.ErrName, at},
			{begin + name("f V1", "d V1") + more + "common default 8 8 f\ncommon default 8 8 d\n", api.ErrName, at},
		})
	}
	for _, s := range []string{"def global default data S 0 0 x", "main global default data S 0 0 x V", "group g S", "group g text S", "group g S text", "line S 0 1 f", "inline S 0 8 1 x f", "var S 0 8 reg 1 x", "var S 0 8 stack 8 x", "var S 0 8 sym x d", "depth S 0 8 8", "convert S " + strings.Repeat("00", 32)} {
		ok := api.OK
		if _, e, _ := check(t, begin+strings.Replace(s, "S", "data", 1)+"\nref weak default data d\nsection data data 8\n"); e != ok && e != api.ErrArg {
			t.Errorf("%s: %d", s, e)
		}
		checkAll(t, []result{
			{begin + strings.Replace(s, "S", "none", 1) + "\nref weak default data d\nref weak default data none\nhere none\n", api.ErrName, 4},
			{begin + strings.Replace(s, "S", "none", 1) + "\nref weak default data d\nsection none odd 8\n", api.ErrName, 4},
			{begin + strings.Replace(s, "S", "a", 1) + "\nref weak default data d\n", api.ErrName, 4},
		})
	}
	// Only the order of the lines counts.
	checkAll(t, []result{
		{begin + "init 1 f\nodd\nref weak default code f\n", api.ErrForm, 5},
		{begin + "jump @x\nodd\n", api.ErrName, 4},
		{begin + "init 1 f\njump @x\njump 4\n", api.ErrName, 4},
		{begin + "jump 4\ninit 1 f\n", api.ErrRange, 4},
		{begin + "var text 0 8 sym v d\n", api.ErrName, 4},
		{begin + "var none 0 8 sym v d\nref weak default data d\n", api.ErrName, 4},
		{begin + "section d code 8\nsection d code 8\njump @x\n", api.ErrTwice, 5},
	})
	for _, s := range []string{"common default 8 8 d", "def weak default data text 0 0 d", "main weak default data text 0 0 d", "label weak default data 0 d", "ref weak default data d"} {
		if _, e, line := check(t, begin+"var text 0 8 sym v d\n"+s+"\n"); e == api.ErrName {
			t.Errorf("%s: %d in line %d", s, e, line)
		}
	}
}

// P11.1: the object is not right.
func TestNotRight(t *testing.T) {
	for _, s := range []string{
		"bytes 00", "section x code 4", "section x data 3", "section x data -8", "section \x7f data 8", "ref local default code f", "def global default data text 0 0 f", "def global default code text 0 16 f", "main global default code text 0 8 f",
		"common default 0 8 c", "rel word 0 f\nword 0\nref weak default code f", "rel call 0 f\nref weak default code f", "rel call 0 f\nrel call 0 f\ncall 0\nref weak default code f",
		"group g text text", "group g text\ngroup h text", "init 1048577 f\nref weak default code f", "line text 4 1 x", "line text 0 0 x", "line text 0 1 \"", "line text 8 1 x", "inline text 0 0 1 x x", "var text 0 8 reg 16 v", "var text 0 8 stack 4 v", "var text 0 8 sym v f\nref weak default code f",
		"depth text 0 8 4", "convert text " + strings.Repeat("00", 32), "section d data 8\nconvert d 00", "section d data 8\nconvert d " + strings.Repeat("00", 32) + "\npiece 0 1 0",
		"line text 0 1 " + strings.Repeat("f", 65), "line text 0 1 x\ty", "rel call 2147483648 f\ncall 0\nref weak default code f",
	} {
		checkAll(t, []result{{begin + s + "\n", api.ErrArg, 0}})
	}
	many := func(n int, line string) string {
		var b strings.Builder
		b.WriteString("object a\nsection s data 8\n")
		for i := range n {
			b.WriteString(strings.ReplaceAll(line, "#", strconv.Itoa(i)) + "\n")
		}
		return b.String()
	}
	for _, x := range []struct {
		s    string
		want api.Errno
	}{
		{many(api.MaxSecs-1, "section s# data 8\nword #"), api.OK},
		{many(api.MaxSecs, "section s# data 8"), api.ErrArg},
		{many(api.MaxSecs, "section s# data 8") + "odd", api.ErrForm},
		{many(api.MaxSecs, "section s# code 8\nnop") + "jump @x\n", api.ErrName},
		{many(api.MaxSecs, "section s# code 8\nnop\njump @x\nhere x\nbytes 00\nspace 7"), api.ErrArg},
		{many(api.MaxSyms, "ref weak default code f#"), api.OK},
		{many(api.MaxSyms+1, "ref weak default code f#"), api.ErrArg},
	} {
		o, e, _ := Parse(x.s)
		if e != x.want {
			t.Errorf("%q..: %d; want %d", x.s[:40], e, x.want)
		}
		for i, s := range o.Secs[min(1, len(o.Secs)):] {
			if s.Bytes != string([]byte{byte(i), byte(i >> 8), 0, 0, 0, 0, 0, 0}) {
				t.Fatalf("%q..: %+v", x.s[:40], s)
			}
		}
	}
}

// P11.1: sections whose contents are no part of a result need no memory.
func TestMemoryOfSections(t *testing.T) {
	var b strings.Builder
	for i := range 20000 {
		b.WriteString("section s" + strconv.Itoa(i) + " data 8\nspace 1048560\nbytes 00\n")
	}
	half := b.String()[:strings.Index(b.String(), "section s1000 ")]
	for _, x := range []result{{"object a\n" + b.String(), api.ErrArg, 0}, {"object a\n" + half + "odd\n", api.ErrForm, 3002}, {"object a\n" + half + "space 20\n", api.ErrFull, 3002}} {
		var before, after runtime.MemStats
		runtime.ReadMemStats(&before)
		_, e, line := Parse(x.s)
		runtime.ReadMemStats(&after)
		if used := after.TotalAlloc - before.TotalAlloc; e != x.e || line != x.line || used > 1<<28 {
			t.Errorf("%d, %d with %d bytes; want %d, %d", e, line, used, x.e, x.line)
		}
	}
}
