package group

import (
	"slices"
	"strings"
	"testing"

	"linchpin/api"
	"linchpin/isa"
	"linchpin/object"
)

// template is what copies of a group are made of: sections, and relocations of them.
type template struct {
	secs []api.Section
	rels []api.Rel
}

// variants is the number of templates for each name, of which no two are alike.
const variants = 7

// instruction is an instruction.
func instruction(op, imm int) string {
	s, ok := isa.Encode(api.Ins{Op: op, Imm: imm})
	if !ok {
		panic("not right")
	}
	return s
}

// randomBytes returns n bytes.
func randomBytes(next func(int) int, n int) string {
	b := make([]byte, n)
	for i := range b {
		b[i] = byte(next(256))
	}
	return string(b)
}

// randomTemplate returns a template. Its first section is one of data with 8 bytes and a relocated word behind them.
func randomTemplate(next func(int) int, name string) template {
	m := template{
		secs: secs(api.Section{Name: name + ".0", Kind: api.SkData, Align: 8, Size: 16, Bytes: randomBytes(next, 16)}),
		rels: []api.Rel{{Sec: 0, At: 8, Kind: api.RkWord}},
	}
	for i := range next(3) {
		s := api.Section{Name: name + "." + letter(i), Kind: pick(next, api.SkCode, api.SkZero, api.SkTls), Align: 8, Size: 8 * next(5)}
		switch s.Kind {
		case api.SkTls:
			s.Bytes = randomBytes(next, s.Size)
		case api.SkCode:
			for at := 0; at < s.Size; at += 8 {
				if next(2) == 0 {
					s.Bytes += instruction(api.OpNop, 0)
					continue
				}
				s.Bytes += instruction(api.OpCall, 0)
				m.rels = append(m.rels, api.Rel{Sec: i + 1, At: at, Kind: api.RkCall})
			}
		}
		m.secs = append(m.secs, s)
	}
	return m
}

// vary returns a template that is changed in one respect, which depends on the number of the variant; 0 is the template itself.
func vary(next func(int) int, m template, variant int) template {
	m.secs = slices.Clone(m.secs)
	i := next(len(m.secs))
	last := m.secs[len(m.secs)-1]
	switch variant {
	case 1:
		m.secs[i].Name += "'"
	case 2:
		m.secs[i].Align *= 2
	case 3:
		m.secs = append(m.secs, api.Section{Name: last.Name + "+", Kind: api.SkZero, Align: 8})
	case 4:
		m.secs = append(m.secs, api.Section{Name: last.Name + "+", Kind: api.SkZero, Align: 8}, api.Section{Name: last.Name + "++", Kind: api.SkZero, Align: 8})
	case 5:
		b := []byte(m.secs[0].Bytes)
		b[next(8)] ^= byte(1 + next(255))
		m.secs[0].Bytes = string(b)
	case 6:
		m.secs[0].Size, m.secs[0].Bytes = 24, m.secs[0].Bytes+strings.Repeat("\x00", 8)
	}
	return m
}

// addCopy adds a copy of a template to an object, with other bytes where relocations write.
func addCopy(next func(int) int, o *api.Object, name string, m template) {
	g := of(name)
	for i, s := range m.secs {
		for _, r := range m.rels {
			if r.Sec != i {
				continue
			}
			field := randomBytes(next, 8)
			if s.Kind == api.SkCode {
				field = instruction(api.OpCall, 8*next(64))
			}
			s.Bytes = s.Bytes[:r.At] + field + s.Bytes[r.At+8:]
			o.Rels = append(o.Rels, api.Rel{Sec: len(o.Secs), At: r.At, Kind: r.Kind, Sym: next(2), Add: next(9)})
		}
		s.Keep = next(2) == 0
		g.Secs = append(g.Secs, len(o.Secs))
		o.Secs = append(o.Secs, s)
		if next(3) == 0 {
			o.Secs = append(o.Secs, api.Section{Name: "own." + letter(len(o.Secs)), Kind: api.SkZero, Align: 1, Size: next(9)})
		}
	}
	o.Groups = append(o.Groups, g)
}

// randomLink returns right objects with copies of groups, and the number of the variant of each copy. Without other variants, all copies are of the first one.
func randomLink(next func(int) int, others bool) ([]api.Object, [][]int) {
	names := []string{"g", "h", "x", "y", "z"}
	templates := map[string][]template{}
	for _, name := range names {
		m := randomTemplate(next, name)
		for v := range variants {
			templates[name] = append(templates[name], vary(next, m, v))
		}
	}
	var l []api.Object
	var of [][]int
	for i := range 1 + next(8) {
		o := api.Object{Name: letter(i), Syms: []api.Symbol{{Name: "f", Bind: api.BdGlobal, Sec: -1}, {Name: "g", Bind: api.BdWeak, Sec: -1}}}
		var mine []int
		for _, n := range order(next, len(names)) {
			if next(2) == 0 {
				continue
			}
			v := 0
			if others && next(3) > 0 {
				v = next(variants)
			}
			mine = append(mine, v)
			addCopy(next, &o, names[n], templates[names[n]][v])
		}
		l, of = append(l, o), append(of, mine)
	}
	return l, of
}

// order returns the numbers below n in a pseudo-random order.
func order(next func(int) int, n int) []int {
	var l []int
	for i := range n {
		l = slices.Insert(l, next(i+1), i)
	}
	return l
}

// P12.1, P12.2: right objects with copies of which it is known whether they are alike.
func TestRandomRight(t *testing.T) {
	dropped, different := 0, 0
	for seed := range 4000 {
		l, of := randomLink(random(uint64(seed)), true)
		keep, differs := check(t, l)
		first := map[string]place{}
		var want []api.Differ
		for i, o := range l {
			if !object.Right(o) {
				t.Fatalf("not right: %+v", o)
			}
			row := strings.Repeat("1", len(o.Secs))
			for j, g := range o.Groups {
				p, ok := first[g.Name]
				if !ok {
					first[g.Name] = place{i, j}
					continue
				}
				dropped++
				for _, sec := range g.Secs {
					row = row[:sec] + "0" + row[sec+1:]
				}
				if of[i][j] != of[p.obj][p.group] {
					different++
					want = append(want, api.Differ{Name: g.Name, First: p.obj, Other: i})
				}
			}
			if kept(keep[i]) != row {
				t.Fatalf("%d: %s; want %s", seed, kept(keep[i]), row)
			}
		}
		if !slices.Equal(differs, want) {
			t.Fatalf("%d: %v; want %v", seed, differs, want)
		}
	}
	if dropped < 10000 || different < 5000 || different > dropped-2000 {
		t.Errorf("%d dropped copies, %d different ones", dropped, different)
	}
}

// randomWild returns objects that need not be right in any respect.
func randomWild(next func(int) int) []api.Object {
	var l []api.Object
	for range next(5) {
		o := api.Object{Name: pick(next, "", "o", "p")}
		for range next(5) {
			s := api.Section{Name: pick(next, "", "a", "b"), Kind: pick(next, -1, 0, 0, 1), Align: pick(next, -1, 8, 8, 8), Size: pick(next, -1, 0, 8, 8), Keep: next(2) == 0}
			s.Bytes = pick(next, "", "\x00\x00\x00\x00\x00\x00\x00\x00", "abcdefgh", "abcdefgi", "abcdefgi")
			o.Secs = append(o.Secs, s)
		}
		for range next(4) {
			o.Rels = append(o.Rels, api.Rel{Sec: next(7) - 1, At: pick(next, -1, 0, 0, 0, 1, 4, 6), Kind: next(api.RkKinds+2) - 1})
		}
		for range next(4) {
			g := of(pick(next, "x", "x", "y", ""))
			for range next(4) {
				g.Secs = append(g.Secs, next(8)-1)
			}
			o.Groups = append(o.Groups, g)
		}
		l = append(l, o)
	}
	return l
}

// P12.1, P12.2: objects that need not be right.
func TestRandomWild(t *testing.T) {
	dropped, different, right := 0, 0, 0
	for seed := range 40000 {
		l := randomWild(random(uint64(seed)))
		keep, differs := check(t, l)
		for i, o := range l {
			dropped += strings.Count(kept(keep[i]), "0")
			if object.Right(o) {
				right++
			}
		}
		different += len(differs)
	}
	if dropped < 10000 || different < 5000 || right > 10000 {
		t.Errorf("%d dropped sections, %d different copies, %d right objects", dropped, different, right)
	}
}

// P12.4: of the copies of a name, exactly one has all its sections kept.
func TestOneIsKept(t *testing.T) {
	for seed := range 1000 {
		l, _ := randomLink(random(uint64(seed)+9000), true)
		keep, _ := Keep(l)
		whole, copies := map[string]int{}, map[string]int{}
		for i, o := range l {
			for _, g := range o.Groups {
				n := 0
				for _, sec := range g.Secs {
					if keep[i][sec] {
						n++
					}
				}
				if n > 0 && n < len(g.Secs) {
					t.Fatalf("%d: a part of a group is kept", seed)
				}
				copies[g.Name]++
				if n > 0 {
					whole[g.Name]++
				}
			}
		}
		for name := range copies {
			if whole[name] != 1 {
				t.Fatalf("%d: %d copies of %s are kept", seed, whole[name], name)
			}
		}
	}
}

// P12.4: what follows an object does not change what is kept of it, nor what differs in it.
func TestWhatFollows(t *testing.T) {
	for seed := range 4000 {
		next := random(uint64(seed) + 14000)
		l, _ := randomLink(next, true)
		if seed%2 == 0 {
			l = randomWild(next)
		}
		keep, differs := Keep(l)
		for n := range len(l) + 1 {
			some, fewer := Keep(l[:n])
			if !sameKeep(some, keep[:n]) {
				t.Fatalf("%d: %v, of %d objects; %v", seed, some, n, keep)
			}
			var want []api.Differ
			for _, d := range differs {
				if d.Other < n {
					want = append(want, d)
				}
			}
			if !slices.Equal(fewer, want) {
				t.Fatalf("%d: %v, of %d objects; %v", seed, fewer, n, differs)
			}
		}
	}
}

// P12.5: where all copies of each name are alike, nothing differs.
func TestNothingDiffers(t *testing.T) {
	dropped := 0
	for seed := range 2000 {
		l, _ := randomLink(random(uint64(seed)+19000), false)
		keep, differs := check(t, l)
		if len(differs) > 0 {
			t.Fatalf("%d: %v", seed, differs)
		}
		for _, k := range keep {
			dropped += strings.Count(kept(k), "0")
		}
	}
	if dropped < 2000 {
		t.Errorf("only %d sections are dropped", dropped)
	}
}

// P12.5: being alike is symmetric and transitive, and every copy is alike itself.
func TestRelation(t *testing.T) {
	alike := func(a, b api.Object) bool {
		_, differs := Keep(objs(a, b))
		return len(differs) == 0
	}
	for seed := range 300 {
		next := random(uint64(seed) + 24000)
		var l []api.Object
		m := randomTemplate(next, "g")
		for range 6 {
			o := api.Object{Name: "o"}
			addCopy(next, &o, "g", vary(next, m, next(variants)))
			l = append(l, o)
		}
		for _, o := range randomWild(next) {
			if len(o.Groups) > 0 {
				o.Groups = o.Groups[:1]
				o.Groups[0].Name = "g"
				l = append(l, o)
			}
		}
		for _, a := range l {
			if !alike(a, a) {
				t.Fatalf("%d: a copy is not alike itself", seed)
			}
			for _, b := range l {
				if alike(a, b) != alike(b, a) {
					t.Fatalf("%d: not symmetric", seed)
				}
				for _, c := range l {
					if alike(a, b) && alike(b, c) && !alike(a, c) {
						t.Fatalf("%d: not transitive", seed)
					}
				}
			}
		}
	}
}
