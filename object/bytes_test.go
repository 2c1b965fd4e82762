package object

import (
	"reflect"
	"slices"
	"strings"
	"testing"

	"linchpin/api"
	"linchpin/digest"
	"linchpin/wire"
)

// whole returns a right object with one part of each kind.
func whole() api.Object {
	return api.Object{
		Name:     "ob",
		Secs:     []api.Section{{Name: "t", Kind: api.SkCode, Align: 8, Size: 8, Bytes: "\x16\x00\x00\x00\x00\x00\x00\x00"}, {Name: "d", Kind: api.SkData, Align: 256, Size: 3, Bytes: "xyz", Keep: true}},
		Syms:     []api.Symbol{{Name: "m", Version: "v1", Main: true, Bind: api.BdWeak, Vis: api.ViHidden, Sec: 0, Size: 8}, {Name: "c", Bind: api.BdCommon, Vis: api.ViProtected, Kind: api.SyData, Sec: -1, Size: 300, Align: 128}, {Name: "d", Bind: api.BdLocal, Kind: api.SyData, Sec: 1, At: 2, Size: 1}},
		Rels:     []api.Rel{{Sec: 0, At: 0, Kind: api.RkCall, Sym: 2, Add: -1 << 31}},
		Groups:   []api.Group{{Name: "g", Secs: []int{0, 1}}},
		Inits:    []api.Init{{Sym: 0, Order: -2, Last: true}, {Sym: 0, Order: 64}},
		Lines:    []api.Line{{Sec: 0, At: 0, File: "a b", Line: 1 << 20}},
		Inlines:  []api.Inline{{Sec: 0, From: 0, To: 8, Name: "i", File: "f", Line: 127}},
		Vars:     []api.Var{{Sec: 0, From: 0, To: 8, Name: "r", Where: api.LoStack, N: 1016}},
		Depths:   []api.Depth{{Sec: 0, From: 0, To: 8, Bytes: 128}},
		Converts: []api.Convert{{Sec: 1, From: strings.Repeat("\xff", 32), Pieces: []api.Piece{{From: 1, Size: 2, To: 0}, {From: 1000, Size: 1, To: 2}}, Code: 0}},
	}
}

// wholeBytes is the encoding of whole, by hand.
func wholeBytes() string {
	return "\x02ob" +
		"\x02" + "\x01t\x00\x08\x08\x08\x16\x00\x00\x00\x00\x00\x00\x00\x00" + "\x01d\x01\x80\x02\x03\x03xyz\x01" +
		"\x03" + "\x01m\x02v1\x01\x02\x02\x00\x00\x00\x08\x00" + "\x01c\x00\x00\x03\x01\x01\x01\x00\xac\x02\x80\x01" + "\x01d\x00\x00\x00\x00\x01\x02\x02\x01\x00" +
		"\x01" + "\x00\x00\x06\x02\xff\xff\xff\xff\x0f" +
		"\x01" + "\x01g\x02\x00\x02" +
		"\x02" + "\x00\x03\x01" + "\x00\x80\x01\x00" +
		"\x01" + "\x00\x00\x03a b\x80\x80\x40" +
		"\x01" + "\x00\x00\x08\x01i\x01f\x7f" +
		"\x01" + "\x00\x00\x08\x01r\x01\xf8\x07" +
		"\x01" + "\x00\x00\x08\x80\x01" +
		"\x01" + "\x01\x20" + strings.Repeat("\xff", 32) + "\x02" + "\x01\x02\x00" + "\xe8\x07\x01\x02" + "\x00"
}

// P10.2: an encoding written by hand, with everything in it.
func TestBytesTable(t *testing.T) {
	o := whole()
	if s := Bytes(o); s != wholeBytes() {
		t.Errorf("%q; want %q", s, wholeBytes())
	}
	if p, ok := Read(wholeBytes()); !ok || !same(o, p) {
		t.Errorf("%+v, %v", p, ok)
	}
	o = api.Object{Name: "a"}
	if s := Bytes(o); s != "\x01a\x00\x00\x00\x00\x00\x00\x00\x00\x00\x00" {
		t.Errorf("%q", s)
	}
	if p, ok := Read("\x01a\x00\x00\x00\x00\x00\x00\x00\x00\x00\x00"); !ok || !same(o, p) {
		t.Errorf("%+v, %v", p, ok)
	}
}

// P10.2: a converter without code and pieces.
func TestBytesConvert(t *testing.T) {
	o := small()
	o.Converts = []api.Convert{{Sec: 3, From: strings.Repeat("q", 32), Code: -1}}
	s := Bytes(o)
	if want := "\x01\x03\x20" + strings.Repeat("q", 32) + "\x00\x01"; !strings.HasSuffix(s, want) {
		t.Errorf("%q", s)
	}
}

// checkRead compares Read with the model.
func checkRead(t *testing.T, s string) bool {
	t.Helper()
	want, ok := modelRead(s)
	o, got := Read(s)
	if got != ok || !same(o, want) {
		t.Fatalf("Read of %q is %+v, %v; want %+v, %v", s, o, got, want, ok)
	}
	if ok && Bytes(o) != s {
		t.Fatalf("Read of %q is %+v, which has another encoding", s, o)
	}
	return ok
}

// P10.2, P10.5: every beginning and every end of an encoding, and more behind it.
func TestReadParts(t *testing.T) {
	for _, o := range append(smallRows(), base(), small(), api.Object{Name: "a"}) {
		s := Bytes(o)
		if s == "" || !checkRead(t, s) {
			t.Fatalf("%+v", o)
		}
		for i := range len(s) {
			if checkRead(t, s[:i]) {
				t.Errorf("the first %d bytes of %q are read", i, s)
			}
			if i > 0 {
				checkRead(t, s[i:])
			}
		}
		for _, more := range []string{"\x00", "\x01", "\xff", s, strings.Repeat("\x00", 11)} {
			if checkRead(t, s+more) {
				t.Errorf("%q is read with %q behind it", s, more)
			}
		}
	}
}

// P10.2, P10.5: encodings with one byte that is another one, with one byte more, and with one byte less.
func TestReadEveryByte(t *testing.T) {
	var all []byte
	for b := range 256 {
		all = append(all, byte(b))
	}
	few := []byte{0, 1, 2, 8, 129, 255}
	read := 0
	for i, o := range []api.Object{whole(), base()} {
		bytes := few
		if i == 0 {
			bytes = all
		}
		s := Bytes(o)
		for i := range len(s) {
			checkRead(t, s[:i]+s[i+1:])
			for _, b := range bytes {
				c := string([]byte{b})
				if checkRead(t, s[:i]+c+s[i+1:]) {
					read++
				}
				if slices.Contains(few, b) {
					checkRead(t, s[:i]+c+s[i:])
				}
			}
		}
	}
	if read < 3000 {
		t.Errorf("only %d are read", read)
	}
}

// P10.2, P10.5: what is no encoding.
func TestReadTable(t *testing.T) {
	head := "\x01a\x00\x00\x00\x00\x00\x00\x00\x00\x00\x00"
	code := "\x01t\x00\x08\x08\x08\x16\x00\x00\x00\x00\x00\x00\x00"
	with := func(i int, s string) string { return head[:2+i] + s + head[3+i:] }
	for _, x := range []struct {
		name, s string
		want    bool
	}{
		{"nothing", "", false},
		{"an empty name", "\x00\x00\x00\x00\x00\x00\x00\x00\x00\x00\x00", false},
		{"a name", head, true},
		{"a list too few", head[:len(head)-1], false},
		{"a list too many", head + "\x00", false},
		{"a length with two groups", with(0, "\x80\x00"), false},
		{"a length of the name with two groups", "\x81\x00" + head[1:], false},
		{"a length with more than is there", with(0, "\x7f"), false},
		{"a length of 2^62", with(0, "\x80\x80\x80\x80\x80\x80\x80\x80\x40"), false},
		{"a length of 2^63", with(3, "\x80\x80\x80\x80\x80\x80\x80\x80\x80\x01"), false},
		{"a length of 2^63 - 1", with(9, "\xff\xff\xff\xff\xff\xff\xff\xff\x7f"), false},
		{"a section that is not kept", with(0, "\x01"+code+"\x00"), true},
		{"a section that is kept", with(0, "\x01"+code+"\x01"), true},
		{"a section that is kept doubly", with(0, "\x01"+code+"\x02"), false},
		{"a truth value of two groups", with(0, "\x01"+code+"\x81\x00"), false},
		{"a truth value of 129", with(0, "\x01"+code+"\x81\x01"), false},
		{"a section that is not right", with(0, "\x01"+code[:3]+"\x04"+code[4:]+"\x00"), false},
		{"a section of the Kind 2 with bytes", with(0, "\x01\x01t\x02"+code[3:]+"\x00"), false},
		{"a section of the Kind 3 with bytes", with(0, "\x01\x01t\x03"+code[3:]+"\x00"), true},
		{"a symbol", with(1, "\x01\x01m\x00\x00\x01\x00\x00\x01\x00\x00\x00"), true},
		{"a symbol with Sec 2^63 - 1", with(1, "\x01\x01m\x00\x00\x01\x00\x00\xfe\xff\xff\xff\xff\xff\xff\xff\xff\x01\x00\x00\x00"), false},
		{"a symbol with Sec -2", with(1, "\x01\x01m\x00\x00\x01\x00\x00\x03\x00\x00\x00"), false},
		{"a symbol with Main 2", with(1, "\x01\x01m\x01v\x02\x01\x00\x00\x01\x00\x00\x00"), false},
		{"a group with a section that is not there", with(3, "\x01\x01g\x01\x00"), false},
	} {
		if _, ok := Read(x.s); ok != x.want {
			t.Errorf("%s: %v", x.name, ok)
		}
		checkRead(t, x.s)
	}
}

// P10.2, P10.5: all short strings of certain bytes behind the beginning of an encoding.
func TestReadShort(t *testing.T) {
	lists([]byte{0, 1, 2, 'a', 0x80, 0xff}, 5, func(l []byte) {
		checkRead(t, "\x01a"+string(l)+strings.Repeat("\x00", 9))
		checkRead(t, string(l))
	})
}

// P10.2: a length that is wrong does not take the time or the memory that it would take if it were right.
func TestReadLengths(t *testing.T) {
	length := "\xff\xff\xff\xff\xff\xff\xff\xff\x7f"
	for i := range 10 {
		s := "\x01a" + strings.Repeat("\x00", i) + length
		for _, tail := range []string{"", "\x00", strings.Repeat("\x00", 1000), strings.Repeat("\x01", 1000), strings.Repeat(length, 100)} {
			if o, ok := Read(s + tail); ok || !same(o, api.Object{}) {
				t.Errorf("%d: %+v, %v", i, o, ok)
			}
		}
	}
}

// P10.2: the digests of right objects, and of those that are not right.
func TestDigest(t *testing.T) {
	for _, o := range append(smallRows(), base(), small(), api.Object{Name: "a"}) {
		if Digest(o) != digest.Sum(encoded(o)) {
			t.Errorf("%+v", o)
		}
	}
	for _, o := range []api.Object{{}, {Name: "a b"}, sections(api.MaxSecs + 1)} {
		if Digest(o) != digest.Sum("") {
			t.Errorf("%+v", o)
		}
	}
	if s := digest.Hex(Digest(api.Object{Name: "a"})); s != digest.Hex(digest.Sum("\x01a\x00\x00\x00\x00\x00\x00\x00\x00\x00\x00")) {
		t.Error(s)
	}
}

// P10.5: objects that differ in one field have different encodings and digests.
func TestDifferent(t *testing.T) {
	found := map[string]api.Object{}
	digests := map[string]bool{}
	o := base()
	for _, row := range rows(reflect.ValueOf(&o).Elem()) {
		for _, f := range fieldsOf(row) {
			before := reflect.New(f.Type()).Elem()
			before.Set(f)
			for _, set := range settings(f) {
				set()
				if s := Bytes(o); s != "" {
					if p, ok := found[s]; ok && !same(o, p) {
						t.Fatalf("%+v and %+v have the same encoding", o, p)
					}
					if _, ok := found[s]; !ok {
						found[s] = clone(o)
						digests[Digest(o)] = true
					}
				}
			}
			f.Set(before)
		}
	}
	if len(found) < 300 || len(digests) != len(found) {
		t.Errorf("%d encodings, %d digests", len(found), len(digests))
	}
}

// P10.3: Key of objects with all sorts of names, also of those that are not right.
func TestKey(t *testing.T) {
	o := base()
	for sec := -2; sec < baseSecs+2; sec++ {
		want := ""
		if in(sec, 0, baseSecs-1) {
			want = "\x06base.o" + modelText(o.Secs[sec].Name)
		}
		if s := Key(o, sec); s != want {
			t.Errorf("%d: %q", sec, s)
		}
	}
	for _, x := range []struct {
		o    api.Object
		sec  int
		want string
	}{
		{api.Object{}, 0, ""},
		{api.Object{Secs: []api.Section{{}}}, 0, "\x00\x00"},
		{api.Object{Secs: []api.Section{{}}}, 1, ""},
		{api.Object{Secs: []api.Section{{}}}, -1, ""},
		{api.Object{Secs: []api.Section{{Kind: -1}}}, 0, ""},
		{api.Object{Secs: []api.Section{{Align: -1}}}, 0, ""},
		{api.Object{Secs: []api.Section{{Size: -1}}}, 0, ""},
		{api.Object{Name: "a b", Secs: []api.Section{{}, {Name: "\xff", Kind: 99, Align: 3, Size: 7}, {Kind: -1}}}, 1, "\x03a b\x01\xff"},
		{api.Object{Name: strings.Repeat("n", 300), Secs: []api.Section{{Name: "s"}}}, 0, "\xac\x02" + strings.Repeat("n", 300) + "\x01s"},
	} {
		if s := Key(x.o, x.sec); s != x.want {
			t.Errorf("%+v, %d: %q", x.o, x.sec, s)
		}
	}
}

// P10.3: Find.
func TestFind(t *testing.T) {
	o := base()
	twice := api.Object{Syms: []api.Symbol{{Name: "a"}, {Name: "b", Version: "v"}, {Name: "a"}, {Name: "b", Version: "v"}, {Name: "b"}, {}, {Version: "v"}}}
	for _, x := range []struct {
		o             api.Object
		name, version string
		want          int
		ok            bool
	}{
		{o, "main", "", symMain, true},
		{o, "main", "v1", symMainV1, true},
		{o, "main", "v2", 0, false},
		{o, "end", "", symEnd, true},
		{o, "end", "v1", 0, false},
		{o, "ref", "v1", symRef, true},
		{o, "ref", "", symRefData, true},
		{o, "zero", "", 0, false},
		{o, "zero", "v2", symZero, true},
		{o, "mai", "n", 0, false},
		{o, "", "", 0, false},
		{o, "text", "", 0, false},
		{twice, "a", "", 0, true},
		{twice, "b", "v", 1, true},
		{twice, "b", "", 4, true},
		{twice, "", "", 5, true},
		{twice, "", "v", 6, true},
		{twice, "v", "b", 0, false},
		{api.Object{}, "", "", 0, false},
	} {
		if i, ok := Find(x.o, x.name, x.version); i != x.want || ok != x.ok {
			t.Errorf("%q, %q: %d, %v", x.name, x.version, i, ok)
		}
	}
}

// P10.3: forms written by hand.
func TestFormTable(t *testing.T) {
	code := func(bytes string, rels ...api.Rel) api.Object {
		return api.Object{Name: "o", Secs: []api.Section{{Name: "s", Kind: api.SkCode, Align: 8, Size: 16, Bytes: bytes}}, Rels: rels}
	}
	data := func(bytes string, rels ...api.Rel) api.Object {
		return api.Object{Name: "o", Secs: []api.Section{{Name: "s", Kind: api.SkData, Align: 256, Size: 300, Bytes: bytes}}, Rels: rels}
	}
	for i, x := range []struct {
		o    api.Object
		sec  int
		want string
	}{
		{code("ABCDEFGHabcdefgh"), 0, "\x00\x08\x10\x10ABCDEFGHabcdefgh"},
		{code("ABCDEFGHabcdefgh", api.Rel{Kind: api.RkAddr}), 0, "\x00\x08\x10\x10ABCD\x00\x00\x00\x00abcdefgh"},
		{code("ABCDEFGHabcdefgh", api.Rel{At: 8, Kind: api.RkTls}), 0, "\x00\x08\x10\x10ABCDEFGHabcd\x00\x00\x00\x00"},
		{code("ABCDEFGHabcdefgh", api.Rel{At: 9, Kind: api.RkTls}), 0, "\x00\x08\x10\x10ABCDEFGHabcdefgh"},
		{code("ABCDEFGHabcdefgh", api.Rel{At: 3, Kind: api.RkSlot}), 0, "\x00\x08\x10\x10ABCDEFG\x00\x00\x00\x00defgh"},
		{code("ABCDEFGHabcdefgh", api.Rel{At: -1, Kind: api.RkSlot}), 0, "\x00\x08\x10\x10ABCDEFGHabcdefgh"},
		{code("ABCDEFGHabcdefgh", api.Rel{Sec: 1, Kind: api.RkSlot}), 0, "\x00\x08\x10\x10ABCDEFGHabcdefgh"},
		{code("ABCDEFGHabcdefgh", api.Rel{Sec: -1, Kind: api.RkSlot}), 0, "\x00\x08\x10\x10ABCDEFGHabcdefgh"},
		{code("ABCDEFGHabcdefgh", api.Rel{Kind: api.RkWord}), 0, "\x00\x08\x10\x10\x00\x00\x00\x00\x00\x00\x00\x00abcdefgh"},
		{code("ABCDEFGHabcdefgh", api.Rel{Kind: api.RkDiff4}), 0, "\x00\x08\x10\x10\x00\x00\x00\x00EFGHabcdefgh"},
		{code("ABCDEFGHabcdefgh", api.Rel{At: 13, Kind: api.RkDiff4}), 0, "\x00\x08\x10\x10ABCDEFGHabcdefgh"},
		{code("ABCDEFGHabcdefgh", api.Rel{At: 14, Kind: api.RkDelta}), 0, "\x00\x08\x10\x10ABCDEFGHabcdef\x00\x00"},
		{code("ABCDEFGHabcdefgh", api.Rel{At: 15, Kind: api.RkDelta}), 0, "\x00\x08\x10\x10ABCDEFGHabcdefgh"},
		{code("ABCDEFGHabcdefgh", api.Rel{Kind: -1}, api.Rel{Kind: api.RkKinds}), 0, "\x00\x08\x10\x10ABCDEFGHabcdefgh"},
		{code("ABCDEFGHabcdefgh", api.Rel{At: 8, Kind: api.RkHigh}, api.Rel{At: 1, Kind: api.RkDelta}), 0, "\x00\x08\x10\x10A\x00\x00DEFGHabcd\x00\x00\x00\x00"},
		{data("123", api.Rel{At: 0, Kind: api.RkDelta}), 0, "\x01\x80\x02\xac\x02\x03\x00\x003"},
		{data("1234567", api.Rel{At: 0, Kind: api.RkWord}, api.Rel{At: 0, Kind: api.RkAddr}), 0, "\x01\x80\x02\xac\x02\x071234567"},
		{data(""), 0, "\x01\x80\x02\xac\x02\x00"},
		{data("", api.Rel{Kind: api.RkDelta}), 0, "\x01\x80\x02\xac\x02\x00"},
		{api.Object{Secs: []api.Section{{}}}, 0, "\x00\x00\x00\x00"},
		{api.Object{Secs: []api.Section{{}, {Kind: 77, Align: 5, Size: 9, Keep: true, Bytes: "b"}}}, 1, "\x4d\x05\x09\x01b"},
	} {
		if Form(x.o, x.sec) != digest.Sum(x.want) {
			t.Error(i)
		}
	}
	for i, x := range []struct {
		o   api.Object
		sec int
	}{
		{api.Object{}, 0},
		{small(), -1},
		{small(), 4},
		{api.Object{Secs: []api.Section{{Kind: -1}}}, 0},
		{api.Object{Secs: []api.Section{{Align: -1}}}, 0},
		{api.Object{Secs: []api.Section{{Size: -1}}}, 0},
	} {
		if s := Form(x.o, x.sec); s != "" {
			t.Errorf("%d: %q", i, s)
		}
	}
}

// P10.3: forms with all kinds of relocations at all places, also those that are not right.
func TestFormEvery(t *testing.T) {
	ats := append(numbersAround(), -2, -3)
	for _, size := range []int{0, 1, 2, 3, 4, 7, 8, 9, 16, 20} {
		bytes := "ABCDEFGHIJKLMNOPQRST"[:size]
		for kind := -2; kind < api.RkKinds+2; kind++ {
			for _, at := range ats {
				o := api.Object{Name: "o", Secs: []api.Section{{Bytes: "xxxxxxxxxxxxxxxxxxxxxxxx"}, {Kind: kind & 3, Align: size, Size: 2 * size, Bytes: bytes}}, Rels: []api.Rel{{Sec: 1, At: at, Kind: kind}}}
				for sec := range 2 {
					if Form(o, sec) != digest.Sum(modelForm(o, sec)) {
						t.Fatalf("%d bytes, Kind %d, At %d", size, kind, at)
					}
				}
			}
		}
	}
}

// P10.3: what is not relocated does not depend on the rest of the object, and the other way round.
func TestFormDepends(t *testing.T) {
	o := base()
	for sec := range o.Secs {
		form, key := Form(o, sec), Key(o, sec)
		for i := range len(o.Secs[sec].Bytes) {
			p := base()
			b := []byte(p.Secs[sec].Bytes)
			b[i] ^= 1
			p.Secs[sec].Bytes = string(b)
			relocated := modelForm(o, sec) == modelForm(p, sec)
			if (Form(p, sec) == form) != relocated || Key(p, sec) != key {
				t.Errorf("section %d, byte %d", sec, i)
			}
		}
		p := base()
		p.Secs[sec].Name, p.Secs[sec].Keep = "other", !p.Secs[sec].Keep
		p.Name, p.Syms, p.Groups, p.Inits = "p", nil, nil, nil
		if Form(p, sec) != form || Key(p, sec) != wire.Text("p")+wire.Text("other") {
			t.Errorf("section %d", sec)
		}
	}
}

// P10.4: arguments are not modified, nor is what lies behind their ends; and what lies there is not read.
func TestArguments(t *testing.T) {
	o := base()
	for _, f := range []func(){func() { Right(o) }, func() { Bytes(o) }, func() { Digest(o) }, func() { Form(o, secData) }, func() { Find(o, "end", "") }, func() { Key(o, 1) }} {
		f()
		if !same(o, base()) {
			t.Fatal("an argument is modified")
		}
	}
	longer := base()
	v := reflect.ValueOf(&longer).Elem()
	for i := range v.NumField() {
		if l := v.Field(i); l.Kind() == reflect.Slice {
			// The first element, once more behind the end.
			l.Set(reflect.Append(l, cloneOf(l.Index(0))).Slice(0, l.Len()))
		}
	}
	if !Right(longer) || Bytes(longer) != Bytes(o) || Form(longer, 1) != Form(o, 1) {
		t.Error("elements behind the end are read")
	}
	for i := range v.NumField() {
		if l := v.Field(i); l.Kind() == reflect.Slice {
			behind := l.Slice(0, l.Len()+1).Index(l.Len())
			if !reflect.DeepEqual(cloneOf(behind).Interface(), cloneOf(l.Index(0)).Interface()) {
				t.Error("elements behind the end are modified")
			}
		}
	}
}

// P10.4: results are fresh, and their lists do not share memory.
func TestResults(t *testing.T) {
	s := Bytes(base())
	o, _ := Read(s)
	p, _ := Read(s)
	for _, row := range rows(reflect.ValueOf(&o).Elem()) {
		for _, f := range fieldsOf(row) {
			f.SetZero()
		}
	}
	for _, l := range slicesOf(reflect.ValueOf(&o).Elem()) {
		// An element more in front of what may follow in memory.
		reflect.Append(l, reflect.Zero(l.Type().Elem()))
	}
	if !same(p, base()) || Bytes(p) != s {
		t.Error("results share memory")
	}
	q, _ := Read(s)
	for _, l := range slicesOf(reflect.ValueOf(&q).Elem()) {
		reflect.Append(l, reflect.Zero(l.Type().Elem()))
	}
	if !same(q, base()) {
		t.Error("the lists of a result share memory")
	}
}

// slicesOf returns all lists in a value.
func slicesOf(v reflect.Value) []reflect.Value {
	var l []reflect.Value
	switch v.Kind() {
	case reflect.Struct:
		for i := range v.NumField() {
			l = append(l, slicesOf(v.Field(i))...)
		}
	case reflect.Slice:
		l = append(l, v)
		for i := range v.Len() {
			l = append(l, slicesOf(v.Index(i))...)
		}
	}
	return l
}

// P10.4: a call does not change what later calls return.
func TestCalls(t *testing.T) {
	o := base()
	s := Bytes(o)
	for range 3 {
		Read(s[:len(s)-1])
		Right(whole())
		Form(o, 0)
		if Bytes(o) != s || !Right(o) || Digest(o) != digest.Sum(s) || !slices.Equal(o.Groups[0].Secs, []int{secText, secZero}) {
			t.Error("a later call returns something else")
		}
	}
}
