package show_test

import (
	"fmt"
	"math"
	"slices"
	"strconv"
	"strings"
	"testing"

	"mortise/api"
	"mortise/show"
	"mortise/syntax"
)

// words: the grammar's words, as chapter 5 lists them.
func words() []string {
	return []string{"type", "u8", "u16", "u32", "u64", "bool", "varint", "vector", "list", "option", "union", "struct"}
}

// done: an expression whose form is known, and its first node.
type done struct {
	text string
	node api.Expr
}

// formOf: a node's form, its kids' forms being known.
func formOf(x api.Expr, kids []done) string {
	var forms, tagged, labelled []string
	for _, k := range kids {
		forms = append(forms, k.text)
		tagged = append(tagged, fmt.Sprintf("%d:%s", k.node.Tag, k.text))
		labelled = append(labelled, fmt.Sprintf("%s:%s", k.node.Label, k.text))
	}
	inner := strings.Join(forms, "")
	return map[int]string{
		api.KindUint:   map[int]string{1: "u8", 2: "u16", 4: "u32", 8: "u64"}[x.N],
		api.KindBool:   "bool",
		api.KindVarint: "varint",
		api.KindVector: fmt.Sprintf("vector<%s,%d>", inner, x.N),
		api.KindList:   fmt.Sprintf("list<%s,%d>", inner, x.N),
		api.KindOption: fmt.Sprintf("option<%s>", inner),
		api.KindUnion:  fmt.Sprintf("union{%s}", strings.Join(tagged, ",")),
		api.KindStruct: fmt.Sprintf("struct{%s}", strings.Join(labelled, ",")),
		api.KindName:   x.Name,
	}[x.Kind]
}

// model: the form of a source that syntax.Check takes: each type from its last node to the first, with a list of what is done, the next kid at its end.
func model(s api.Source) string {
	var out []string
	for _, d := range s.Defs {
		var known []done
		for _, x := range slices.Backward(d.Type) {
			cut := len(known) - x.Kids
			kids := slices.Clone(known[cut:])
			slices.Reverse(kids)
			known = append(known[:cut], done{formOf(x, kids), x})
		}
		out = append(out, "type "+d.Name+"="+known[0].text+";")
	}
	return strings.Join(out, "")
}

// key: all fields of a source but the places, so written that unlike ones are unlike.
func key(s api.Source) string {
	var b strings.Builder
	for _, d := range s.Defs {
		fmt.Fprintf(&b, "def %q %d\n", d.Name, len(d.Type))
		for _, x := range d.Type {
			fmt.Fprintf(&b, "%d %d %q %q %d %d\n", x.Kind, x.N, x.Name, x.Label, x.Tag, x.Kids)
		}
	}
	return b.String()
}

// brief: a source as a text that is not too long to be read.
func brief(s api.Source) string { return fmt.Sprintf("%.400s", fmt.Sprintf("%+v", s)) }

// clone: new memory, without spare room.
func clone(s api.Source) api.Source {
	out := api.Source{Defs: slices.Clip(slices.Clone(s.Defs))}
	for i := range out.Defs {
		out.Defs[i].Type = slices.Clip(slices.Clone(out.Defs[i].Type))
	}
	return out
}

// printed tells where Print's answer is another one than said.
func printed(t *testing.T, s api.Source, want string, e api.Errno) {
	t.Helper()
	if text, g := show.Print(s); text != want || g != e {
		t.Errorf("P7.2: Print of %s = %.200q (%d bytes), %d, want %.200q (%d bytes), %d", brief(s), text, len(text), g, want, len(want), e)
	}
}

// alike tells where Same's answer is another one than said, both ways.
func alike(t *testing.T, a, b api.Source, want bool) {
	t.Helper()
	if show.Same(a, b) != want || show.Same(b, a) != want {
		t.Errorf("P7.3: Same of %s and %s = %v, the other way %v, want %v", brief(a), brief(b), show.Same(a, b), show.Same(b, a), want)
	}
}

// checkAll holds Print of any source against the model, and what follows.
func checkAll(t *testing.T, s api.Source) (string, api.Errno) {
	t.Helper()
	want := ""
	_, _, e := syntax.Check(s)
	if e == api.OK {
		want = model(s)
		if len(want) > 65536 {
			want, e = "", api.ErrLong
		}
	}
	printed(t, s, want, e)
	alike(t, s, s, true)
	alike(t, s, clone(s), true)
	if e == api.OK {
		checkBack(t, s)
	}
	return want, e
}

// checkBack: P7.4, of a source that is printed.
func checkBack(t *testing.T, s api.Source) {
	t.Helper()
	text, _ := show.Print(s)
	back, f := syntax.Parse(text)
	if f.Err != api.OK || key(back) != key(s) {
		t.Errorf("P7.4: Print of %s, parsed, is %s, %v", brief(s), brief(back), f)
	}
	alike(t, s, back, true)
	if again, e := show.Print(back); again != text || e != api.OK {
		t.Errorf("P7.4: %.200q is parsed and printed as %.200q, %d", text, again, e)
	}
}

// parsed: the source of a text that is a good one.
func parsed(t *testing.T, text string) api.Source {
	t.Helper()
	s, f := syntax.Parse(text)
	if f.Err != api.OK {
		t.Fatalf("P6.2: Parse(%.200q) = %v", text, f)
	}
	return s
}

func def(name string, l ...api.Expr) api.Def { return api.Def{Name: name, Type: l} }

func source(l ...api.Def) api.Source { return api.Source{Defs: l} }

func one(l ...api.Expr) api.Source { return source(def("a", l...)) }

// kinds: every kind of type expression, each in its form.
func kinds() []string {
	return []string{
		"u8", "u16", "u32", "u64", "bool", "varint", "u128", "types", strings.Repeat("n", 32), "z_9",
		"vector<bool,0>", "vector<a_1,12>", "vector<u8,2147483647>", "list<varint,1>", "list<u64,0>", "list<u16,2147483647>", "option<u32>", "option<option<x>>",
		"list<vector<u64,2147483647>,5>", "vector<list<u8,10>,100>",
		"union{7:u8}", "union{0:u8}", "union{2147483647:x,0:x,0:list<u8,3>}", "union{1:union{2:bool,3:u8},4:u16}",
		"struct{ab:bool}", "struct{x:x,x:struct{x:x},y:option<u8>}", "struct{a:union{0:u8,10:u16},b:vector<struct{c:bool,d:varint},3>,e:u32}",
	}
}

// nests: every way in which an expression may lie in another one: what stands ahead of it and behind.
func nests() [][2]string {
	return [][2]string{{"option<", ">"}, {"list<", ",1>"}, {"vector<", ",0>"}, {"struct{a:", "}"}, {"union{0:", "}"}, {"struct{a:u8,b:", ",c:bool}"}, {"union{0:u8,1:", ",2:bool}"}}
}

// nested: n ways that follow one another from number i on; what stands ahead, and behind.
func nested(i, n int) (front, back string) {
	for k := range n {
		w := nests()[(i+k)%len(nests())]
		front, back = front+w[0], w[1]+back
	}
	return front, back
}

// wide: a struct or union of n parts.
func wide(kind string, n int) string {
	var l []string
	for i := range n {
		l = append(l, map[string]string{"struct": "p"}[kind]+strconv.Itoa(i)+":u8")
	}
	return kind + "{" + strings.Join(l, ",") + "}"
}

// goodTexts: texts in their one form, of all kinds of types, ordinary ones and those at the limits.
func goodTexts() []string {
	out := []string{"", "type a=u8;type a=u8;", "type a=a;", "type a=u8;type b=list<a,3>;type c=struct{x:b,y:a};", strings.Repeat("type a=u8;", 256)}
	for _, k := range kinds() {
		out = append(out, "type k="+k+";", "type k=u8;type kk="+k+";type l=bool;")
		for _, w := range nests() {
			out = append(out, "type k="+w[0]+k+w[1]+";")
		}
	}
	for i, w := range nests() {
		front, back := nested(i, 16)
		out = append(out, "type k="+front+"u8"+back+";", "type k="+strings.Repeat(w[0], 16)+"x"+strings.Repeat(w[1], 16)+";")
	}
	for _, kind := range []string{"struct", "union"} {
		for _, n := range []int{1, 2, 9, 10, 11, 63, 64} {
			out = append(out, "type k="+wide(kind, n)+";")
		}
	}
	return append(out, great())
}

// great: a text of thousands of nodes.
func great() string {
	var l []string
	for i := range 64 {
		l = append(l, "f"+strconv.Itoa(i)+":"+wide("struct", 64))
	}
	return "type a=struct{" + strings.Join(l, ",") + "};type b=" + wide("union", 64) + ";"
}

// strangeNumbers: at all edges, negative and very great ones.
func strangeNumbers() []int {
	return []int{math.MinInt, math.MinInt + 1, -1 << 32, -1 << 31, -64, -8, -2, -1, 0, 1, 2, 3, 4, 5, 6, 7, 8, 9, 10, 11, 16, 63, 64, 65, 66, 255, 256, 257, 1<<31 - 2, 1<<31 - 1, 1 << 31, 1<<32 + 1, 1<<32 + 8, 1<<62 - 1, 1 << 62, math.MaxInt - 1, math.MaxInt}
}

// strangeTexts: names, and what is none.
func strangeTexts() []string {
	return append(words(), "", "a", "b", "x", "z9_", strings.Repeat("n", 32), strings.Repeat("n", 33), "A", "_", "_a", "9", "9a", "a b", " a", "a ", "a-b", "a\x00", "\x00", "é", "aé", "a\n", "lists", ";", "a:u8,b", "\xff", "u8;type b=u8")
}

// changes: does something to each field of each definition and node of a source, one by one, and lets be called what looks at it; the source is then as before.
func changes(s api.Source, look func(what string, s api.Source)) {
	number := func(what string, field *int) {
		held := *field
		for _, n := range strangeNumbers() {
			if n != held {
				*field = n
				look(what, s)
			}
		}
		*field = held
	}
	text := func(what string, field *string) {
		held := *field
		for _, x := range strangeTexts() {
			if x != held {
				*field = x
				look(what, s)
			}
		}
		*field = held
	}
	for i := range s.Defs {
		d := &s.Defs[i]
		text("def.Name", &d.Name)
		number("At", &d.At)
		for k := range d.Type {
			x := &d.Type[k]
			number("Kind", &x.Kind)
			number("N", &x.N)
			text("Name", &x.Name)
			text("Label", &x.Label)
			number("Tag", &x.Tag)
			number("Kids", &x.Kids)
			number("At", &x.At)
		}
	}
}

// without, doubled, swapped: a list with the item at i left out, with it twice, with it and the next one in the other order.
func without[T any](l []T, i int) []T { return slices.Concat(l[:i], l[i+1:]) }

func doubled[T any](l []T, i int) []T { return slices.Concat(l[:i+1], l[i:]) }

func swapped[T any](l []T, i int) []T {
	return slices.Concat(l[:i], []T{l[i+1], l[i]}, l[i+2:])
}

// rearranged: lets be called what looks at a source with its definitions, and the nodes of each, left out, doubled, swapped, cut off, and with one more.
func rearranged(s api.Source, look func(s api.Source)) {
	for i := range s.Defs {
		look(source(without(s.Defs, i)...))
		look(source(doubled(s.Defs, i)...))
		look(source(s.Defs[:i]...))
		if i+1 < len(s.Defs) {
			look(source(swapped(s.Defs, i)...))
		}
		l := s.Defs[i].Type
		other := clone(s)
		set := func(l []api.Expr) {
			other.Defs[i].Type = l
			look(other)
		}
		for k := range l {
			set(without(l, k))
			set(doubled(l, k))
			set(l[:k])
			if k+1 < len(l) {
				set(swapped(l, k))
			}
		}
		set(append(slices.Clone(l), api.Expr{}))
		set(append(slices.Clone(l), api.Expr{Kind: api.KindBool}))
	}
	look(source(append(slices.Clone(s.Defs), api.Def{})...))
	look(source(append(slices.Clone(s.Defs), def("a", api.Expr{Kind: api.KindBool}))...))
}
