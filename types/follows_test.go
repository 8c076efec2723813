package types_test

import (
	"slices"
	"strconv"
	"strings"
	"testing"
	"unsafe"

	"mortise/api"
	"mortise/names"
	"mortise/show"
	"mortise/syntax"
	"mortise/types"
)

// sources: those of the good texts, and some that look like chance, in any order.
func sources(t *testing.T) []api.Source {
	t.Helper()
	var out []api.Source
	for _, text := range goodTexts() {
		out = append(out, parsed(t, text))
	}
	d := dice(5)
	for n := range 30 {
		out = append(out, ordered(chance(&d, n), d.shuffled(n)))
	}
	return out
}

// P9.5: what Build answers, Check takes; a root's type is as deep as its definition.
func TestRight(t *testing.T) {
	for _, s := range sources(t) {
		got, f := types.Build(s)
		if g := types.Check(got); f != (api.Fault{}) || g != (api.Fault{}) {
			t.Fatalf("P9.5: %s: %v, Check of its schema %v", brief(s), f, g)
		}
		depths, _ := names.Depth(s)
		known := map[int]int{}
		for i, r := range got.Roots {
			if d := deepness(got.Types, r.Type, known); d != depths[i] {
				t.Errorf("P9.5: %s: definition %d is %d deep, its type %d", brief(s), i, depths[i], d)
			}
		}
	}
}

// P9.3, P9.5: what is built at the limits is taken; with one root and option more it is refused as P9.3 says.
func TestRightAtLimits(t *testing.T) {
	deepest := strings.Join(row(64, "u8", func(i int, ahead string) string { return nested(ahead, i, 1) }), "")
	most := strings.Join(row(256, wide("union", 64, "u8"), func(i int, ahead string) string { return ahead }), "")
	for _, c := range []struct {
		text string
		e    api.Errno
		more int
	}{
		{deepest, api.ErrDeep, 0},
		{most, api.ErrSchema, 1 + 256},
		{"type a=vector<list<union{255:u8},1048576>,1048576>;", api.OK, 0},
	} {
		s := parsed(t, c.text)
		built(t, s, schemaOf(t, s), api.Fault{})
		got, _ := types.Build(s)
		checked(t, got, api.OK, 0)
		n := len(got.Types)
		got.Types = append(got.Types, option(got.Roots[len(got.Roots)-1].Type))
		got.Roots = append(got.Roots, root("beyond", n))
		if c.e == api.OK {
			checked(t, got, api.OK, 0)
		} else {
			checked(t, got, c.e, n+c.more)
		}
	}
}

// P9.6: sources that differ in places alone have the same schema.
func TestPlacesAreNothing(t *testing.T) {
	for _, s := range sources(t) {
		want, _ := types.Build(s)
		other := placed(s)
		for _, at := range append([]int{-7}, strangeNumbers()...) {
			if at != -7 {
				for i := range other.Defs {
					other.Defs[i].At = at
					for k := range other.Defs[i].Type {
						other.Defs[i].Type[k].At = at
					}
				}
			}
			if !show.Same(s, other) {
				t.Fatalf("P7.4: %s is not the same with other places", brief(s))
			}
			built(t, other, want, api.Fault{})
		}
	}
	a := parsed(t, "type b=list<a,3>; type a=struct{x:u8,y:bool};")
	b := parsed(t, " type\tb  = list < a , 3 > ;# a remark\n\n type a = struct { x : u8 , y : bool } ; ")
	want, _ := types.Build(a)
	built(t, b, want, api.Fault{})
}

// P9.6: the printed source has the same schema.
func TestPrinted(t *testing.T) {
	for _, s := range sources(t) {
		want, _ := types.Build(s)
		text, e := show.Print(s)
		if e == api.ErrLong {
			continue
		}
		again, f := syntax.Parse(text)
		if e != api.OK || f.Err != api.OK {
			t.Fatalf("P7.2: %s is printed %.100q, %d, and parsed %v", brief(s), text, e, f)
		}
		built(t, again, want, api.Fault{})
	}
}

// P9.7: as many types as nodes that are no names, each used; other names for the same change no type.
func TestEachOnce(t *testing.T) {
	for _, s := range sources(t) {
		follows(t, s)
		want, _ := types.Build(s)
		want = cloned(want)
		other := clone(s)
		for i := range other.Defs {
			other.Defs[i].Name = "n_" + other.Defs[i].Name
			want.Roots[i].Name = "n_" + want.Roots[i].Name
			for k, x := range other.Defs[i].Type {
				if x.Kind == api.KindName {
					other.Defs[i].Type[k].Name = "n_" + x.Name
				}
			}
		}
		built(t, other, want, api.Fault{})
	}
	for _, c := range []struct {
		text string
		n    int
	}{{"", 0}, {"type a=u8;", 1}, {"type a=b;type b=u8;", 1}, {"type a=struct{x:b,y:b,z:u8};type b=list<c,2>;type c=b2;type b2=u8;", 4}, {"type a=u8;type b=u8;", 2}, {"type a=union{0:u8,1:u8,2:u8};", 4}} {
		if got, _ := types.Build(parsed(t, c.text)); len(got.Types) != c.n {
			t.Errorf("P9.7: %q has %d types, want %d", c.text, len(got.Types), c.n)
		}
	}
}

// P9.1: with a fault the other answer is nothing, whatever was answered ahead.
func TestZeroBesideFault(t *testing.T) {
	var bad []api.Source
	for _, text := range badTexts() {
		bad = append(bad, parsed(t, text))
	}
	for _, list := range refusals(t) {
		bad = append(bad, list...)
	}
	for _, s := range bad {
		types.Build(parsed(t, "type b=list<a,3>; type a=struct{x:u8,y:bool};"))
		if got, f := types.Build(s); got.Types != nil || got.Roots != nil || f.Err == api.OK {
			t.Errorf("P9.1: Build of %s: %s, %v", brief(s), brief(got), f)
		}
	}
	if n, e := types.Find(schema(nil, root("x", 3), root("a", 3)), "c"); n != 0 || e != api.ErrRoot {
		t.Errorf("P9.4: Find of none = %d, %d", n, e)
	}
}

// roomy, roomyOf: a copy with spare room in all its lists, and something in it that would be a fault.
func roomy(s api.Source) api.Source {
	s = clone(s)
	n := len(s.Defs)
	s.Defs = append(s.Defs, def("a", aBool), def("", anOpt))[:n]
	for i := range s.Defs {
		l := s.Defs[i].Type
		s.Defs[i].Type = append(l, api.Expr{Kind: api.KindName, Name: "unknown"}, api.Expr{Kind: api.KindList, Tag: 999}, api.Expr{At: 9})[:len(l)]
	}
	return s
}

func roomyOf(s api.Schema) api.Schema {
	s = cloned(s)
	s.Types = append(s.Types, api.Type{}, option(-1))[:len(s.Types)]
	s.Roots = append(s.Roots, root("", -1), root("a", 0))[:len(s.Roots)]
	for i := range s.Types {
		l := s.Types[i].Parts
		s.Types[i].Parts = append(l, api.Part{Label: "?", Tag: -1, Type: -1}, api.Part{})[:len(l)]
	}
	return s
}

// all, allOf: all that the lists hold, places and spare room too.
func all(s api.Source) (out []any) {
	for _, d := range s.Defs[:cap(s.Defs)] {
		out = append(out, strings.Clone(d.Name), d.At, len(d.Type))
		for _, x := range d.Type[:cap(d.Type)] {
			out = append(out, x)
		}
	}
	return out
}

func allOf(s api.Schema) (out []any) {
	for _, x := range s.Types[:cap(s.Types)] {
		out = append(out, x.Kind, x.N, x.Elem, len(x.Parts))
		for _, p := range x.Parts[:cap(x.Parts)] {
			out = append(out, p)
		}
	}
	for _, r := range s.Roots[:cap(s.Roots)] {
		out = append(out, r)
	}
	return out
}

// P9.1: what is handed in is not changed, spare room too, and spare room is not looked at.
func TestChangesNothing(t *testing.T) {
	for _, text := range append(append(goodTexts(), badTexts()...), "refused") {
		s := source(def("a", anOpt))
		if text != "refused" {
			s = placed(parsed(t, text))
		}
		a := roomy(s)
		held := all(a)
		want, f := model(t, s)
		built(t, a, want, f)
		if !slices.Equal(held, all(a)) {
			t.Errorf("P9.1: Build of %.100q: what is handed in is changed", text)
		}
	}
	for _, s := range append(goodSchemas(t), schema(tower(65, api.KindOption)), schema([]api.Type{option(0)}), schema([]api.Type{boolean()}, root("b", 0), root("b", 0))) {
		a := roomyOf(s)
		held := allOf(a)
		f := checkByWords(s)
		checked(t, a, f.Err, f.At)
		types.Find(a, "a")
		types.Find(a, "none")
		if !slices.Equal(held, allOf(a)) {
			t.Errorf("P9.1: %s: what is handed in is changed", brief(s))
		}
	}
}

// spoil: writes over all lists of a schema, spare room too.
func spoil(s api.Schema) {
	for i := range s.Types[:cap(s.Types)] {
		l := s.Types[:cap(s.Types)]
		for k := range l[i].Parts[:cap(l[i].Parts)] {
			l[i].Parts[:cap(l[i].Parts)][k] = api.Part{Label: "spoilt", Tag: -7, Type: -7}
		}
		l[i] = api.Type{Kind: -7, N: -7, Elem: -7}
	}
	for i := range s.Roots[:cap(s.Roots)] {
		s.Roots[:cap(s.Roots)][i] = root("spoilt", -7)
	}
}

// P9.1: what is answered is new memory, spare room too: it may be written over, and what is appended to one list is seen in no other.
func TestNewMemory(t *testing.T) {
	for _, s := range sources(t) {
		want, _ := model(t, s)
		first, _ := types.Build(s)
		second, _ := types.Build(s)
		spoil(first)
		if !same(second, want) {
			t.Errorf("P9.1: %s: two answers share memory", brief(s))
		}
		built(t, s, want, api.Fault{})
		for i := range second.Types {
			l := second.Types[i].Parts
			for k := range l[:cap(l)][len(l):] {
				l[:cap(l)][len(l)+k] = api.Part{Label: "spoilt"}
			}
			second.Types[i].Parts = append(l, api.Part{Label: "spoilt"})[:len(l)]
		}
		for i := range second.Types[:cap(second.Types)][len(second.Types):] {
			second.Types[:cap(second.Types)][len(second.Types)+i] = api.Type{Kind: -7}
		}
		if !same(second, want) {
			t.Errorf("P9.1: %s: two lists of one answer share memory", brief(s))
		}
		for i := range second.Types {
			for k := range second.Types[i].Parts {
				second.Types[i].Parts[k].Type = -1
				want.Types[i].Parts[k].Type = -1
				if !same(second, want) {
					t.Fatalf("P9.1: %s: part %d of type %d stands elsewhere too", brief(s), k, i)
				}
			}
		}
	}
}

// P9.1: nothing is kept: names and labels in an answer are not the bytes that were handed in.
func TestKeepsNothing(t *testing.T) {
	bytes := []byte("abcxyz")
	name, label := unsafe.String(&bytes[0], 3), unsafe.String(&bytes[3], 3)
	s := source(def(name, api.Expr{Kind: api.KindStruct, Kids: 2}, api.Expr{Kind: api.KindBool, Label: label}, api.Expr{Kind: api.KindName, Name: "k", Label: "m"}), def("k", aBool))
	got, f := types.Build(s)
	copy(bytes, "defuvw")
	want := schema([]api.Type{boolean(), boolean(), structure(field("xyz", 1), field("m", 0))}, root("abc", 2), root("k", 0))
	if f.Err != api.OK || !same(got, want) {
		t.Errorf("P9.1: Build = %s, %v, want %s", brief(got), f, brief(want))
	}
	built(t, s, schema([]api.Type{boolean(), boolean(), structure(field("uvw", 1), field("m", 0))}, root("def", 2), root("k", 0)), api.Fault{})
}

// P9.1: each call looks at what it is handed now.
func TestLooksAgain(t *testing.T) {
	s := parsed(t, "type a=list<b,3>;type b=u8;")
	built(t, s, schema([]api.Type{uN(1), list(3, 0)}, root("a", 1), root("b", 0)), api.Fault{})
	s.Defs[0].Type[0].N = 0
	refused(t, s, api.ErrBound, 7)
	s.Defs[0].Type[0].N = 4
	s.Defs[1].Type[0].N = 8
	built(t, s, schema([]api.Type{uN(8), list(4, 0)}, root("a", 1), root("b", 0)), api.Fault{})
	s.Defs[0].Type[1] = aBool
	built(t, s, schema([]api.Type{boolean(), list(4, 0), uN(8)}, root("a", 1), root("b", 2)), api.Fault{})

	bytes := []byte("abc")
	text := unsafe.String(&bytes[0], 3)
	x := schema([]api.Type{boolean(), structure(field(text, 0), field("xyz", 0))}, root(text, 1), root("xyz", 0))
	checked(t, x, api.OK, 0)
	found(t, x, "abc", 0, api.OK)
	copy(bytes, "xyz")
	checked(t, x, api.ErrSchema, 1)
	found(t, x, "abc", 0, api.ErrRoot)
	x.Types[1].Parts[1].Label = "m"
	checked(t, x, api.ErrSchema, 3)
	copy(bytes, "u16")
	checked(t, x, api.ErrSchema, 1)
	x.Types[1].Parts = x.Types[1].Parts[1:]
	checked(t, x, api.ErrSchema, 2)
	copy(bytes, "abc")
	checked(t, x, api.OK, 0)
	x.Types[0].N = 1
	checked(t, x, api.ErrSchema, 0)
}

// P9.1: the same is answered the same each time.
func TestSameEachTime(t *testing.T) {
	text := "type z=struct{p:b,q:a};type a=u8;type b=a;type c=z;"
	for i := range 60 {
		text += "type d" + strconv.Itoa(i) + "=struct{x:c,y:list<z,9>};"
	}
	s := parsed(t, text)
	want := schemaOf(t, s)
	for range 100 {
		built(t, s, want, api.Fault{})
		checked(t, want, api.OK, 0)
	}
}
