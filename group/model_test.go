package group

import (
	"reflect"
	"slices"
	"strconv"
	"strings"
	"testing"

	"linchpin/api"
	"linchpin/object"
)

// data is a section of data with certain bytes.
func data(name, bytes string) api.Section {
	return api.Section{Name: name, Kind: api.SkData, Align: 8, Size: len(bytes), Bytes: bytes}
}

// secs is a list of sections.
func secs(l ...api.Section) []api.Section { return l }

// of is a group.
func of(name string, secs ...int) api.Group { return api.Group{Name: name, Secs: secs} }

// obj is an object with sections and groups.
func obj(secs []api.Section, groups ...api.Group) api.Object {
	return api.Object{Name: "o", Secs: secs, Groups: groups}
}

// objs is a list of objects.
func objs(l ...api.Object) []api.Object { return l }

// place is the place of a group: an object and the index of the group in it.
type place struct{ obj, group int }

// modelCopies returns the copies of a name.
func modelCopies(objs []api.Object, name string) []place {
	var l []place
	for i, o := range objs {
		for j, g := range o.Groups {
			if g.Name == name {
				l = append(l, place{i, j})
			}
		}
	}
	return l
}

// modelSecs returns the sections of a group.
func modelSecs(objs []api.Object, p place) []int {
	o := objs[p.obj]
	var l []int
	for _, sec := range o.Groups[p.group].Secs {
		for i := range o.Secs {
			if i == sec {
				l = append(l, i)
			}
		}
	}
	return l
}

// modelAlike reports whether two copies are alike.
func modelAlike(objs []api.Object, a, b place) bool {
	l, m := modelSecs(objs, a), modelSecs(objs, b)
	if len(l) != len(m) {
		return false
	}
	for i := range l {
		o, p := objs[a.obj], objs[b.obj]
		if o.Secs[l[i]].Name != p.Secs[m[i]].Name || object.Form(o, l[i]) != object.Form(p, m[i]) {
			return false
		}
	}
	return true
}

// modelKeep returns what Keep returns, by the words of the chapter.
func modelKeep(objs []api.Object) ([][]bool, []api.Differ) {
	keep := make([][]bool, len(objs))
	var differs []api.Differ
	for i, o := range objs {
		keep[i] = make([]bool, len(o.Secs))
		for sec := range o.Secs {
			keep[i][sec] = true
		}
		for j, g := range o.Groups {
			p := place{i, j}
			first := modelCopies(objs, g.Name)[0]
			if p == first {
				continue
			}
			for _, sec := range modelSecs(objs, p) {
				keep[i][sec] = false
			}
			if !modelAlike(objs, first, p) {
				differs = append(differs, api.Differ{Name: g.Name, First: first.obj, Other: i})
			}
		}
	}
	return keep, differs
}

// sameKeep reports whether the first results of two calls are the same.
func sameKeep(l, m [][]bool) bool {
	return slices.EqualFunc(l, m, slices.Equal[[]bool])
}

// check compares Keep with the model, and returns what it returned.
func check(t *testing.T, objs []api.Object) ([][]bool, []api.Differ) {
	t.Helper()
	keep, differs := Keep(objs)
	wantKeep, wantDiffers := modelKeep(objs)
	if !sameKeep(keep, wantKeep) || !slices.Equal(differs, wantDiffers) {
		t.Fatalf("%v, %v; want %v, %v: %+v", keep, differs, wantKeep, wantDiffers, objs)
	}
	return keep, differs
}

// kept writes the kept sections of an object as ones, and the others as zeros.
func kept(keep []bool) string {
	b := []byte(strings.Repeat("0", len(keep)))
	for i, k := range keep {
		if k {
			b[i] = '1'
		}
	}
	return string(b)
}

// clone returns a copy that shares no memory with a value.
func clone[T any](x T) T {
	return cloneOf(reflect.ValueOf(&x).Elem()).Interface().(T)
}

// cloneOf returns a copy of a value of any type.
func cloneOf(v reflect.Value) reflect.Value {
	c := reflect.New(v.Type()).Elem()
	c.Set(v)
	switch v.Kind() {
	case reflect.Struct:
		for i := range v.NumField() {
			c.Field(i).Set(cloneOf(v.Field(i)))
		}
	case reflect.Slice:
		if v.IsNil() {
			return c
		}
		c.Set(reflect.MakeSlice(v.Type(), v.Len(), v.Len()))
		for i := range v.Len() {
			c.Index(i).Set(cloneOf(v.Index(i)))
		}
	}
	return c
}

// random returns a function that returns numbers below a bound, the same ones each time.
func random(seed uint64) func(bound int) int {
	return func(bound int) int {
		seed = seed*6364136223846793005 + 1442695040888963407
		return int(seed>>33) % bound
	}
}

// pick returns an element of a list.
func pick[T any](next func(int) int, l ...T) T {
	return l[next(len(l))]
}

// letter returns a short name.
func letter(n int) string { return "n" + strconv.Itoa(n) }
