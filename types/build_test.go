package types_test

import (
	"math"
	"slices"
	"strconv"
	"strings"
	"testing"

	"mortise/api"
	"mortise/types"
)

var (
	aBool = api.Expr{Kind: api.KindBool}
	anOpt = api.Expr{Kind: api.KindOption, Kids: 1}
)

func uN(bytes int) api.Type { return api.Type{Kind: api.KindUint, N: bytes} }

func boolean() api.Type { return api.Type{Kind: api.KindBool} }

func number() api.Type { return api.Type{Kind: api.KindVarint} }

func vector(n, of int) api.Type { return api.Type{Kind: api.KindVector, N: n, Elem: of} }

func list(n, of int) api.Type { return api.Type{Kind: api.KindList, N: n, Elem: of} }

func option(of int) api.Type { return api.Type{Kind: api.KindOption, Elem: of} }

func field(label string, of int) api.Part { return api.Part{Label: label, Type: of} }

func arm(tag, of int) api.Part { return api.Part{Tag: tag, Type: of} }

func structure(l ...api.Part) api.Type { return api.Type{Kind: api.KindStruct, Parts: l} }

func union(l ...api.Part) api.Type { return api.Type{Kind: api.KindUnion, Parts: l} }

func root(name string, of int) api.Root { return api.Root{Name: name, Type: of} }

func schema(l []api.Type, roots ...api.Root) api.Schema { return api.Schema{Types: l, Roots: roots} }

// P9.2: the chapter's examples, and each kind of type, written out.
func TestBuildExamples(t *testing.T) {
	for _, c := range []struct {
		text string
		want api.Schema
	}{
		{"", api.Schema{}},
		{"# nothing", api.Schema{}},
		{"type a=u16;", schema([]api.Type{uN(2)}, root("a", 0))},
		{"type b=list<a,3>; type a=struct{x:u8,y:bool};", schema([]api.Type{uN(1), boolean(), structure(field("x", 0), field("y", 1)), list(3, 2)}, root("b", 3), root("a", 2))},
		{"type c=a; type a=option<a2>; type a2=varint;", schema([]api.Type{number(), option(0)}, root("c", 1), root("a", 1), root("a2", 0))},
		{"type a=u8;type b=u16;type c=u32;type d=u64;type e=bool;type f=varint;", schema([]api.Type{uN(1), uN(2), uN(4), uN(8), boolean(), number()}, root("a", 0), root("b", 1), root("c", 2), root("d", 3), root("e", 4), root("f", 5))},
		{"type v=vector<u64,1048576>;", schema([]api.Type{uN(8), vector(1048576, 0)}, root("v", 1))},
		{"type l=list<varint,1>;", schema([]api.Type{number(), list(1, 0)}, root("l", 1))},
		{"type u=union{200:u8,3:bool};", schema([]api.Type{uN(1), boolean(), union(arm(200, 0), arm(3, 1))}, root("u", 2))},
		{"type u=union{0:struct{a:union{255:u8}}};", schema([]api.Type{uN(1), union(arm(255, 0)), structure(field("a", 1)), union(arm(0, 2))}, root("u", 3))},
		// The like of each other are unlike types, where each is written.
		{"type a=u8;type b=u8;type c=struct{x:u8,y:u8};", schema([]api.Type{uN(1), uN(1), uN(1), uN(1), structure(field("x", 2), field("y", 3))}, root("a", 0), root("b", 1), root("c", 4))},
		// The kids ahead of the node, the first kid, and all that it is made of, first.
		{"type a=struct{z:list<u8,2>,b:union{7:option<bool>,1:varint},a:vector<vector<u16,3>,4>};", schema([]api.Type{
			uN(1), list(2, 0), boolean(), option(2), number(), union(arm(7, 3), arm(1, 4)), uN(2), vector(3, 6), vector(4, 7), structure(field("z", 1), field("b", 5), field("a", 8)),
		}, root("a", 9))},
		// The order of names.Order, not that of the source, nor that in which names are met: b, then a, then z, then c.
		{"type z=struct{p:a,q:u64,r:b};type a=list<b,5>;type b=u16;type c=option<z>;", schema([]api.Type{
			uN(2), list(5, 0), uN(8), structure(field("p", 1), field("q", 2), field("r", 0)), option(3),
		}, root("z", 3), root("a", 1), root("b", 0), root("c", 4))},
		// Ready ones go ahead of one that waits, the least first: b, d, a, c.
		{"type a=option<d>;type b=u8;type c=a;type d=bool;", schema([]api.Type{uN(1), boolean(), option(1)}, root("a", 2), root("b", 0), root("c", 2), root("d", 1))},
	} {
		s := parsed(t, c.text)
		built(t, s, c.want, api.Fault{})
		buildAll(t, s)
		checkAll(t, c.want)
	}
}

// P9.2: the chapter's faults, and DOC.md's.
func TestBuildFaults(t *testing.T) {
	for _, c := range []struct {
		text string
		e    api.Errno
		at   int
	}{
		{"type a=vector<u8,0>;", api.ErrBound, 7},
		{"type a=union{256:u8};", api.ErrBound, 13},
		{"type a=b;", api.ErrUnknown, 7},
		{"type a=list<a,3>;", api.ErrRing, 5},
		{"type a=struct{x:u8,x:u8};", api.ErrTwice, 19},
		{"type a=list<u8,1048577>;", api.ErrBound, 7},
		{"type a=struct{x:list<u8,0>};", api.ErrBound, 14},
		{"type a=union{1:u8,300:list<u8,0>};", api.ErrBound, 18},
	} {
		refused(t, parsed(t, c.text), c.e, c.at)
		buildAll(t, parsed(t, c.text))
	}
	refused(t, source(api.Def{Name: "a", At: 5}), api.ErrSource, 0)
}

// P9.2: a source of no definitions has no types and no roots.
func TestBuildNothing(t *testing.T) {
	for _, s := range []api.Source{{}, {Defs: []api.Def{}}, {Defs: make([]api.Def, 0, 9)}} {
		built(t, s, api.Schema{}, api.Fault{})
		got, _ := types.Build(s)
		found(t, got, "a", 0, api.ErrRoot)
	}
}

// bound: the text of a type with a number that has a bound, and whether it is within.
type bound struct {
	text string
	ok   bool
}

// bounds: each bound that P9.2 names, at it and beyond it.
func bounds() []bound {
	var out []bound
	for _, n := range []int{0, 1, 2, 3, 255, 256, 257, 1<<16 + 1, 1<<20 - 1, 1 << 20, 1<<20 + 1, 1 << 21, 1 << 24, 1<<31 - 1} {
		digits := strconv.Itoa(n)
		out = append(out,
			bound{"vector<u8," + digits + ">", n >= 1 && n <= 1<<20},
			bound{"list<varint," + digits + ">", n >= 1 && n <= 1<<20},
			bound{"list<k," + digits + ">", n >= 1 && n <= 1<<20})
	}
	return out
}

// P9.2: each bound of vectors and lists, at the edges, in every node and definition, first and later, by itself and in others.
func TestBuildBounds(t *testing.T) {
	for _, b := range bounds() {
		for i := range nests() {
			for _, deep := range []int{0, 1, 2, 13} {
				for _, front := range []string{"type k=bool;type a=", "type k=u8;type b=list<u8,1>;type c=struct{x:u8,y:list<b,1048576>};type a=", "type z=a;type k=bool;type a="} {
					text := front + nested("@", i, deep) + ";type w=a;"
					s := parsed(t, strings.Replace(text, "@", b.text, 1))
					f := api.Fault{}
					if !b.ok {
						f = api.Fault{Err: api.ErrBound, At: labelled(text)}
					}
					if _, g := types.Build(s); g != f {
						t.Fatalf("P9.2: %q for @ in %.200q: %v, want %v", b.text, text, g, f)
					}
					if deep < 2 {
						buildAll(t, s)
					}
				}
			}
		}
	}
}

// labelled: where the node at the mark @ begins: at its label or tag, if it has one.
func labelled(text string) int {
	at := strings.Index(text, "@")
	if text[at-1] == ':' {
		return strings.LastIndexAny(text[:at], "{,") + 1
	}
	return at
}

// P9.2: tags, at the edges, of the first arm and of later ones, in every node and definition.
func TestBuildTags(t *testing.T) {
	for _, n := range []int{0, 1, 2, 127, 128, 254, 255, 256, 257, 511, 512, 65536, 1<<20 + 1, 1<<31 - 1} {
		for i, kid := range []string{"u8", "k", "list<u8,1>", "struct{x:u8}", "union{77:u8}", "option<varint>", "vector<k,1048576>"} {
			for _, form := range []string{"union{@}", "union{5:u8,@}", "union{@,6:u8,7:k}", "union{3:k,8:list<u8,4>,@,9:bool}"} {
				for _, front := range []string{"type k=bool;type a=", "type k=u8;type b=union{255:u8,0:u16};type a="} {
					text := front + nested(form, i, i) + ";"
					s := parsed(t, strings.Replace(text, "@", strconv.Itoa(n)+":"+kid, 1))
					f := api.Fault{}
					if n > 255 {
						f = api.Fault{Err: api.ErrBound, At: strings.Index(text, "@")}
					}
					if n >= 5 && n <= 9 || n == 3 {
						continue
					}
					if _, g := types.Build(s); g != f {
						t.Fatalf("P9.2: %d:%s for @ in %q: %v, want %v", n, kid, text, g, f)
					}
					buildAll(t, s)
				}
			}
		}
	}
}

// P9.2: the first node that is out of bounds, in the order of the lists: not of the places, nor of names.Order.
func TestBuildFirstBound(t *testing.T) {
	for _, c := range []struct {
		text      string
		def, node int
	}{
		{"type a=list<list<u8,0>,0>;", 0, 0},
		{"type a=list<list<u8,0>,1>;", 0, 1},
		{"type a=list<b,0>;type b=list<u8,0>;", 0, 0},
		{"type b=list<u8,0>;type a=list<b,0>;", 0, 0},
		{"type a=list<b,1>;type b=list<u8,0>;", 1, 0},
		{"type a=struct{x:b,y:union{256:u8}};type b=vector<u8,0>;", 0, 3},
		{"type a=struct{x:u8,y:vector<list<u8,0>,1048577>,z:union{256:u8}};", 0, 2},
		{"type a=struct{x:u8,y:vector<list<u8,9>,9>,z:union{0:u8,256:u8,257:list<u8,0>}};", 0, 7},
		{"type a=union{256:list<u8,0>,300:u8};", 0, 1},
		{"type a=union{255:list<u8,0>,300:u8};", 0, 1},
		{"type a=union{0:u8,255:list<u8,1>,300:u8,1:vector<u8,0>};", 0, 4},
		{"type a=u8;type b=vector<u8,0>;type c=union{256:u8};", 1, 0},
		{"type a=u8;type b=union{256:u8};type c=vector<u8,0>;", 1, 1},
	} {
		for _, s := range []api.Source{parsed(t, c.text), placed(parsed(t, c.text))} {
			refused(t, s, api.ErrBound, s.Defs[c.def].Type[c.node].At)
			buildAll(t, s)
		}
	}
	// Places are taken as they stand.
	for _, at := range strangeNumbers() {
		s := parsed(t, "type a=struct{x:list<u8,0>};")
		s.Defs[0].Type[1].At = at
		refused(t, s, api.ErrBound, at)
	}
}

// refusals: what syntax.Check refuses, by its error.
func refusals(t *testing.T) map[api.Errno][]api.Source {
	t.Helper()
	fields := parsed(t, "type a="+wide("struct", 64, "u8")+";")
	fields.Defs[0].Type[0].Kids++
	fields.Defs[0].Type = append(fields.Defs[0].Type, api.Expr{Kind: api.KindBool, Label: "more"})
	arms := parsed(t, "type a="+wide("union", 64, "u8")+";")
	arms.Defs[0].Type[0].Kids++
	arms.Defs[0].Type = append(arms.Defs[0].Type, api.Expr{Kind: api.KindBool, Tag: 100})
	deep := source(def("a", append(slices.Repeat([]api.Expr{anOpt}, 17), aBool)...))
	return map[api.Errno][]api.Source{
		api.ErrMany:   {source(slices.Repeat([]api.Def{def("a", aBool)}, 257)...), fields, arms},
		api.ErrNest:   {deep},
		api.ErrSource: {source(def("a")), source(def("list", aBool)), source(def("a", anOpt)), source(def("a", aBool, aBool)), source(def("a", api.Expr{Kind: api.KindList, N: -1, Kids: 1}, aBool)), source(def("a", api.Expr{Kind: api.KindUnion, Kids: 1}, api.Expr{Kind: api.KindBool, Tag: -1}))},
	}
}

// P9.2: syntax.Check's error, at 0, goes ahead of names' faults and of bounds, wherever those stand.
func TestBuildSyntaxFirst(t *testing.T) {
	others := []api.Def{
		parsed(t, "type a=list<u8,0>;").Defs[0], parsed(t, "type c=union{256:u8};").Defs[0], parsed(t, "type a=q;").Defs[0], parsed(t, "type e=e;").Defs[0],
	}
	for e, list := range refusals(t) {
		for _, s := range list {
			s = placed(s)
			refused(t, s, e, 0)
			for _, d := range others {
				if e != api.ErrMany || len(s.Defs) == 1 {
					refused(t, source(slices.Concat([]api.Def{d}, s.Defs)...), e, 0)
				}
				refused(t, source(slices.Concat(s.Defs, []api.Def{d})...), e, 0)
			}
		}
	}
}

// P9.2: names.Check's faults go ahead of bounds, wherever those stand.
func TestBuildNamesFirst(t *testing.T) {
	deep := row(65, "u8", func(i int, ahead string) string { return nested(ahead, i, 1) })
	for _, c := range []struct {
		text string
		e    api.Errno
		def  int
		node int
	}{
		{"type a=q;", api.ErrUnknown, 0, 0},
		{"type a=u8;type a=u8;", api.ErrTwice, 1, -1},
		{"type a=struct{x:u8,x:u8};", api.ErrTwice, 0, 2},
		{"type a=union{256:u8,256:u8};", api.ErrTwice, 0, 2},
		{"type a=list<a,0>;", api.ErrRing, 0, -1},
		{"type a=vector<b,0>;type b=union{999:a};", api.ErrRing, 0, -1},
		{strings.Join(deep, ""), api.ErrDeep, 64, -1},
	} {
		for _, over := range []string{"type v=vector<u8,0>;", "type v=list<u8,1048577>;", "type v=union{256:u8};", "type v=u8;"} {
			ahead := placed(parsed(t, over+c.text))
			at := ahead.Defs[c.def+1].At
			if c.node >= 0 {
				at = ahead.Defs[c.def+1].Type[c.node].At
			}
			refused(t, ahead, c.e, at)
			behind := parsed(t, c.text+over)
			at = behind.Defs[c.def].At
			if c.node >= 0 {
				at = behind.Defs[c.def].Type[c.node].At
			}
			refused(t, behind, c.e, at)
			buildAll(t, ahead)
			buildAll(t, behind)
		}
	}
}

// P9.2: what is written at the limits of syntax and names is built.
func TestBuildLimits(t *testing.T) {
	for _, text := range goodTexts() {
		if f := buildAll(t, parsed(t, text)); f.Err != api.OK {
			t.Errorf("P9.2: %.200q: %v", text, f)
		}
		buildAll(t, placed(parsed(t, text)))
	}
	for _, text := range badTexts() {
		if f := buildAll(t, placed(parsed(t, text))); f.Err == api.OK {
			t.Errorf("P9.2: %.200q is built", text)
		}
	}
	for _, kind := range []string{"struct", "union"} {
		got, _ := types.Build(parsed(t, "type a="+wide(kind, 64, "u8", "bool")+";"))
		last := got.Types[len(got.Types)-1]
		if len(got.Types) != 65 || len(last.Parts) != 64 || last.Parts[63].Type != 63 || last.Parts[0].Type != 0 {
			t.Errorf("P9.2: a %s of 64: %s", kind, brief(got))
		}
	}
}

// P9.2, P9.7: definitions that are names of others, in rows, have the one type that the last of them names.
func TestBuildRows(t *testing.T) {
	for _, n := range []int{1, 2, 3, 64, 65, 255, 256} {
		for _, back := range []bool{false, true} {
			l := row(n, "list<option<u32>,9>", func(i int, ahead string) string { return ahead })
			if back {
				slices.Reverse(l)
			}
			want := api.Schema{Types: []api.Type{uN(4), option(0), list(9, 1)}}
			for i := range n {
				if back {
					i = n - 1 - i
				}
				want.Roots = append(want.Roots, root("d"+strconv.Itoa(i), 2))
			}
			built(t, parsed(t, strings.Join(l, "")), want, api.Fault{})
		}
	}
	// Two rows, one within the other, and a row that ends in a part.
	s := parsed(t, "type a=b;type m=n;type b=c;type n=o;type c=u8;type o=list<a,2>;type p=struct{x:m,y:n,z:a};type q=p;")
	built(t, s, schema([]api.Type{uN(1), list(2, 0), structure(field("x", 1), field("y", 1), field("z", 0))},
		root("a", 0), root("m", 1), root("b", 0), root("n", 1), root("c", 0), root("o", 1), root("p", 2), root("q", 2)), api.Fault{})
}

// P9.2, P9.7: a name that is used once, twice or not at all has its types once; in any order of the definitions.
func TestBuildUses(t *testing.T) {
	for _, text := range []string{
		"type a=u8;type b=list<a,2>;type c=struct{x:a,y:b};type d=union{1:c,2:c};type e=bool;",
		"type a=struct{x:u8,y:option<bool>};type b=struct{x:a,y:a,z:struct{x:a,y:a}};type c=a;type d=c;type e=vector<d,9>;",
		"type a=u64;type b=a;type c=b;type d=union{0:a,255:b,128:c};type e=struct{p:d,q:d,r:d};",
		"type a=u8;type b=u8;type c=u16;type d=u32;type e=varint;",
		"type a=option<u8>;type b=option<a>;type c=option<b>;type d=option<c>;type e=option<d>;",
	} {
		s := parsed(t, text)
		for _, p := range permutations(len(s.Defs)) {
			other := ordered(s, p)
			if f := buildAll(t, other); f.Err != api.OK {
				t.Fatalf("P9.2: %q in the order %v: %v", text, p, f)
			}
		}
	}
	for _, n := range []int{0, 1, 2, 63, 64} {
		text := "type k=struct{x:u8,y:varint};"
		if n > 0 {
			text += "type a=" + wide("struct", n, "k") + ";type b=" + wide("union", n, "k") + ";"
		}
		got, f := types.Build(parsed(t, text))
		want := map[bool]int{true: 5, false: 3}[n > 0]
		if f.Err != api.OK || len(got.Types) != want {
			t.Errorf("P9.7: a name that is used %d times and %d times: %d types, %v", n, n, len(got.Types), f)
		}
	}
}

// P9.2: names of definitions and labels that are alike, and alike in their fronts, are no matter.
func TestBuildNames(t *testing.T) {
	long := strings.Repeat("n", 31)
	s := parsed(t, "type "+long+"a=u8;type "+long+"b="+long+"a;type "+long+"=struct{"+long+"a:"+long+"b,"+long+":"+long+"a,n:bool};type n=option<"+long+">;")
	built(t, s, schema([]api.Type{uN(1), boolean(), structure(field(long+"a", 0), field(long, 0), field("n", 1)), option(2)},
		root(long+"a", 0), root(long+"b", 0), root(long, 2), root("n", 3)), api.Fault{})
	buildAll(t, s)
}

// P9.1, P9.2: each field of each node and definition set otherwise.
func TestBuildEachField(t *testing.T) {
	for _, text := range []string{
		"type a=struct{x:u8,y:b,z:list<union{0:b,255:vector<bool,1048576>},1>};type b=option<varint>;type c=b;",
		"type a=union{1:u16,2:b};type b=vector<c,7>;type c=struct{x:bool};", "type a=b;type b=c;type c=u64;",
	} {
		s := placed(parsed(t, text))
		ok := 0
		changes(s, func() {
			if buildAll(t, s).Err == api.OK {
				ok++
			}
		})
		if ok < 50 {
			t.Errorf("P9.2: only %d of the changed sources are built", ok)
		}
	}
}

// P9.1, P9.2: nodes and definitions left out, doubled, swapped, cut off, put in.
func TestBuildRearranged(t *testing.T) {
	for _, text := range append(goodTexts()[:14], badTexts()[:12]...) {
		s := placed(parsed(t, text))
		for _, l := range rearranged(s.Defs, api.Def{}, def("new", aBool), def("new", anOpt)) {
			buildAll(t, source(l...))
		}
		for i := range s.Defs {
			turned(&s.Defs[i].Type, rearranged(s.Defs[i].Type, api.Expr{}, aBool, anOpt), func() { buildAll(t, s) })
		}
	}
}

// P9.1, P9.2: all small sources of one definition beside a known one, of nodes of all kinds, in bounds and beyond.
func TestBuildSmall(t *testing.T) {
	stock := []api.Expr{
		aBool, {Kind: api.KindUint, N: 8}, {Kind: api.KindName, Name: "b"}, {Kind: api.KindName, Name: "a"}, anOpt,
		{Kind: api.KindVector, N: 3, Kids: 1}, {Kind: api.KindList, N: 0, Kids: 1}, {Kind: api.KindUnion, Kids: 1}, {Kind: api.KindUnion, Kids: 2}, {Kind: api.KindStruct, Kids: 2},
		{Kind: api.KindVarint, Label: "x"}, {Kind: api.KindName, Name: "b", Label: "y"}, {Kind: api.KindOption, Kids: 1, Label: "y"},
		{Kind: api.KindBool, Tag: 7}, {Kind: api.KindName, Name: "b", Tag: 256}, {Kind: api.KindList, N: 9, Kids: 1, Tag: 255}, {},
	}
	for i := range stock {
		stock[i].At = 100 - i
	}
	known := def("b", api.Expr{Kind: api.KindOption, Kids: 1, At: 1}, api.Expr{Kind: api.KindVarint, At: 2})
	met := map[api.Errno]int{}
	var goOn func(l []api.Expr, left int)
	goOn = func(l []api.Expr, left int) {
		met[buildAll(t, source(def("a", l...), known)).Err]++
		for i := 0; i < len(stock) && left > 0; i++ {
			goOn(append(slices.Clone(l), stock[i]), left-1)
		}
	}
	goOn(nil, 4)
	for _, e := range []api.Errno{api.OK, api.ErrBound, api.ErrRing, api.ErrSource, api.ErrTwice} {
		if met[e] < 10 {
			t.Errorf("P9.2: only %d small sources are answered %d", met[e], e)
		}
	}
}

// P9.2: sources that look like chance, in the order of their uses and in others.
func TestBuildChance(t *testing.T) {
	d := dice(9)
	for n := range 150 {
		s := chance(&d, n%40)
		if f := buildAll(t, s); f.Err != api.OK {
			t.Fatalf("P9.2: %s: %v", brief(s), f)
		}
		buildAll(t, ordered(s, d.shuffled(n%40)))
	}
}

// P9.1: the greatest sources come to an end soon.
func TestBuildGreat(t *testing.T) {
	l := []api.Expr{{Kind: api.KindStruct, Kids: 64}}
	for i := range 64 {
		l = append(l, api.Expr{Kind: api.KindUnion, Kids: 64, Label: "f" + strconv.Itoa(i)})
		for k := range 64 {
			l = append(l, api.Expr{Kind: api.KindName, Name: "d0", Tag: k})
		}
	}
	s := source(def("d0", aBool))
	for i := 1; i < 256; i++ {
		s.Defs = append(s.Defs, def("d"+strconv.Itoa(i), l...))
	}
	got, f := types.Build(s)
	if f != (api.Fault{}) || len(got.Types) != 1+255*65 || got.Roots[255].Type != 255*65 {
		t.Fatalf("P9.2: a great source: %d types, %v", len(got.Types), f)
	}
	checked(t, got, api.OK, 0)
	last := &s.Defs[255].Type
	*last = slices.Clone(*last)
	(*last)[len(l)-1].Tag = 256
	(*last)[len(l)-1].At = math.MaxInt
	refused(t, s, api.ErrBound, math.MaxInt)
	// Each leads to all ahead: of the ways there are more than could be gone one by one.
	s = source(def("d0", aBool))
	for i := 1; i < 256; i++ {
		d := def("d"+strconv.Itoa(i), api.Expr{Kind: api.KindStruct, Kids: 2})
		for k, label := range []string{"x", "y"} {
			d.Type = append(d.Type, api.Expr{Kind: api.KindName, Name: "d" + strconv.Itoa(min(i-1, 62-k)), Label: label})
		}
		if i > 1 && i < 63 {
			d.Type[2].Name = "d" + strconv.Itoa(i-2)
		}
		s.Defs = append(s.Defs, d)
	}
	if f := buildAll(t, s); f.Err != api.OK {
		t.Errorf("P9.2: many ways: %v", f)
	}
}
