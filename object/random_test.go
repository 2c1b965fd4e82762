package object

import (
	"reflect"
	"slices"
	"strconv"
	"strings"
	"testing"

	"linchpin/api"
	"linchpin/digest"
)

// randomObject returns a right object with many parts.
func randomObject(next func(int) int) api.Object {
	o := api.Object{Name: "o" + strconv.Itoa(next(100))}
	for i := range 1 + next(20) {
		o.Secs = append(o.Secs, randomSec(next, i))
	}
	for i := range 1 + next(10) {
		o.Syms = append(o.Syms, randomSym(next, o, i))
	}
	// Of each kind, there is one.
	for kind := range api.SyKinds {
		o.Syms = append(o.Syms, api.Symbol{Name: "any" + strconv.Itoa(kind), Bind: api.BdWeak, Kind: kind, Sec: -1})
	}
	in := map[int]int{} // the groups of the sections
	for sec := range o.Secs {
		randomRels(next, &o, sec)
		if o.Secs[sec].Kind == api.SkCode {
			randomRows(next, &o, sec)
		}
		if o.Secs[sec].Kind == api.SkData {
			randomConverts(next, &o, sec)
		}
		in[sec] = next(6)
	}
	for g := range 3 {
		var secs []int
		for sec := range o.Secs {
			if in[sec] == g {
				secs = append(secs, sec)
			}
		}
		if len(secs) > 0 {
			o.Groups = append(o.Groups, api.Group{Name: "g" + strconv.Itoa(g), Secs: secs})
		}
	}
	for range next(4) {
		o.Inits = append(o.Inits, api.Init{Sym: randomSymOf(next, o, api.SyCode), Order: next(1<<21+1) - 1<<20, Last: next(2) == 0})
	}
	return o
}

// randomSec returns a section.
func randomSec(next func(int) int, i int) api.Section {
	s := api.Section{Name: "s" + strconv.Itoa(i), Kind: next(api.SkKinds), Align: 1 << next(9), Size: next(100), Keep: next(2) == 0}
	switch s.Kind {
	case api.SkCode:
		s.Align = max(s.Align, 8)
		for range next(10) {
			s.Bytes += instruction(baseOps[next(len(baseOps))], 0, 0, 0)
		}
		s.Size = len(s.Bytes)
	case api.SkData, api.SkTls:
		for range s.Size {
			s.Bytes += string([]byte{byte(next(256))})
		}
	}
	return s
}

// randomSym returns a symbol.
func randomSym(next func(int) int, o api.Object, i int) api.Symbol {
	s := api.Symbol{Name: "n" + strconv.Itoa(i), Vis: next(api.ViKinds), Sec: -1}
	if next(2) == 0 {
		s.Name, s.Version = "n"+strconv.Itoa(i/2), "v"+strconv.Itoa(i)
	}
	switch next(5) {
	case 0:
		s.Bind, s.Kind = api.BdGlobal+next(2), next(api.SyKinds)
		return s
	case 1:
		s.Version, s.Name = "", "c"+strconv.Itoa(i)
		s.Bind, s.Kind, s.Size, s.Align = api.BdCommon, api.SyData, 1+next(api.MaxSize), 1<<next(9)
		return s
	}
	s.Sec = next(len(o.Secs))
	s.Kind = []int{api.SyCode, api.SyData, api.SyData, api.SyTls, api.SyTls}[o.Secs[s.Sec].Kind]
	s.Bind = api.BdGlobal + next(2)
	s.Main = s.Version != "" && next(2) == 0
	if next(3) == 0 {
		s.Bind, s.Vis, s.Version, s.Main, s.Name = api.BdLocal, api.ViDefault, "", false, "l"+strconv.Itoa(i)
	}
	s.At = next(o.Secs[s.Sec].Size + 1)
	if s.Kind == api.SyCode {
		s.At -= s.At % 8
	}
	s.Size = next(o.Secs[s.Sec].Size - s.At + 1)
	return s
}

// randomSymOf returns the index of a symbol of a kind.
func randomSymOf(next func(int) int, o api.Object, kind int) int {
	for {
		if i := next(len(o.Syms)); o.Syms[i].Kind == kind {
			return i
		}
	}
}

// randomRels adds relocations of a section.
func randomRels(next func(int) int, o *api.Object, sec int) {
	s := o.Secs[sec]
	for at := 0; at < s.Size; {
		kind := next(api.RkKinds)
		r := api.Rel{Sec: sec, At: at, Kind: kind, Sym: next(len(o.Syms)), Add: next(1<<31) - next(1<<31)}
		p := *o
		p.Rels = []api.Rel{r}
		if next(3) > 0 && modelRels(p) {
			o.Rels = append(o.Rels, r)
			at += modelWidths[kind]
			continue
		}
		at++
	}
}

// randomRows adds debug information of a section of code.
func randomRows(next func(int) int, o *api.Object, sec int) {
	size := o.Secs[sec].Size
	for at := 0; at < size; at += 8 * (1 + next(3)) {
		o.Lines = append(o.Lines, api.Line{Sec: sec, At: at, File: "f" + strconv.Itoa(next(3)) + ".c", Line: 1 + next(1<<20)})
		to := at + 8*(1+next((size-at)/8))
		for _, name := range []string{"a", "b", "c"}[next(4):] {
			o.Vars = append(o.Vars, api.Var{Sec: sec, From: at, To: to, Name: name, Where: api.LoReg, N: next(16)})
			v := &o.Vars[len(o.Vars)-1]
			switch next(3) {
			case 0:
				v.Where, v.N = api.LoStack, 8*next(128)
			case 1:
				v.Where, v.N = api.LoSym, randomSymOf(next, *o, api.SyData)
			}
		}
	}
	randomInlines(next, o, sec, 0, size)
	for at := 0; at < size; {
		to := at + 8*(1+next((size-at)/8))
		if next(3) > 0 {
			o.Depths = append(o.Depths, api.Depth{Sec: sec, From: at, To: to, Bytes: 8 * next(128)})
		}
		at = to
	}
}

// randomInlines adds inlined functions in a range.
func randomInlines(next func(int) int, o *api.Object, sec, from, end int) {
	for from < end {
		to := from + 8*(1+next((end-from)/8))
		if next(3) > 0 {
			o.Inlines = append(o.Inlines, api.Inline{Sec: sec, From: from, To: to, Name: "i" + strconv.Itoa(next(3)), File: "f c", Line: 1 + next(1<<20)})
			randomInlines(next, o, sec, from, to)
		}
		from = to
	}
}

// randomConverts adds converters of a section of data.
func randomConverts(next func(int) int, o *api.Object, sec int) {
	for _, b := range []string{"\x01", "b", "\xfe"}[next(4):] {
		c := api.Convert{Sec: sec, From: strings.Repeat(b, 32), Code: -1}
		if next(2) == 0 {
			c.Code = randomSymOf(next, *o, api.SyCode)
		}
		for at := next(8); at < o.Secs[sec].Size; at += next(20) {
			n := 1 + next(o.Secs[sec].Size-at)
			c.Pieces = append(c.Pieces, api.Piece{From: next(api.MaxSize - n + 1), Size: n, To: at})
			at += n
		}
		o.Converts = append(o.Converts, c)
	}
}

// P10.1, P10.2, P10.3, P10.5: pseudo-random right objects.
func TestRandomRight(t *testing.T) {
	parts := map[string]int{}
	for seed := range 1000 {
		o := randomObject(random(uint64(seed)))
		if !checkRight(t, o) {
			t.Fatalf("not right: %+v", o)
		}
		for sec := range o.Secs {
			if Form(o, sec) != digest.Sum(modelForm(o, sec)) {
				t.Fatalf("Form of the section %d: %+v", sec, o)
			}
		}
		v := reflect.ValueOf(o)
		for i := range v.NumField() {
			parts[v.Type().Field(i).Name] += v.Field(i).Len()
		}
	}
	for name, n := range parts {
		if n < 1000 {
			t.Errorf("only %d %s", n, name)
		}
	}
}

// P10.1, P10.2, P10.3, P10.5: pseudo-random objects that were right until something was changed.
func TestRandomChanged(t *testing.T) {
	right, tried := 0, 0
	for seed := range 1200 {
		next := random(uint64(seed) + 5000)
		o := randomObject(next)
		for range 5 {
			changeRandomly(next, &o)
			tried++
			if checkRight(t, o) {
				right++
			}
			for sec := range o.Secs {
				s := o.Secs[sec]
				if s.Kind < 0 || s.Align < 0 || s.Size < 0 {
					if Form(o, sec) != "" || Key(o, sec) != "" {
						t.Fatalf("Form or Key of the section %d: %+v", sec, o)
					}
					continue
				}
				if Form(o, sec) != digest.Sum(modelForm(o, sec)) || Key(o, sec) != modelText(o.Name)+modelText(s.Name) {
					t.Fatalf("Form or Key of the section %d: %+v", sec, o)
				}
			}
		}
	}
	if right < 200 || right > tried/2 {
		t.Errorf("%d of %d are right", right, tried)
	}
}

// changeRandomly sets a field, exchanges two elements of a list, repeats one or takes one away.
func changeRandomly(next func(int) int, o *api.Object) {
	v := reflect.ValueOf(o).Elem()
	all := slicesOf(v)
	l := all[next(len(all))]
	switch {
	case l.Len() == 0:
		return
	case next(3) == 0:
		reflect.Swapper(l.Interface())(next(l.Len()), next(l.Len()))
	case next(3) == 0:
		i := next(l.Len())
		l.Set(reflect.AppendSlice(reflect.AppendSlice(reflect.MakeSlice(l.Type(), 0, 0), l.Slice(0, i+next(2))), l.Slice(i, l.Len())))
	case next(3) == 0:
		i := next(l.Len())
		l.Set(reflect.AppendSlice(reflect.AppendSlice(reflect.MakeSlice(l.Type(), 0, 0), l.Slice(0, i)), l.Slice(i+1, l.Len())))
	default:
		fields := fieldsOf(l.Index(next(l.Len())))
		sets := settings(fields[next(len(fields))])
		sets[next(len(sets))]()
	}
}

// P10.4: the same object, once more, and after other calls.
func TestRandomAgain(t *testing.T) {
	var first []string
	for seed := range 50 {
		first = append(first, Bytes(randomObject(random(uint64(seed)))))
	}
	for seed := range 50 {
		o := randomObject(random(uint64(seed)))
		before := clone(o)
		if Bytes(o) != first[seed] || !same(o, before) {
			t.Error(seed)
		}
	}
	if slices.Contains(first, "") {
		t.Error("not right")
	}
}
