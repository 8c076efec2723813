package lower_test

import (
	"fmt"
	"slices"
	"strconv"
	"strings"
	"testing"

	"mortise/api"
	"mortise/lower"
)

// P16.1, P16.2: the chapter's first table, and where each routine begins.
func TestRoutinesOfExample(t *testing.T) {
	s := built(t, "type a=struct{a:u8,b:list<u16,9>,c:u8};")
	want := program("uint -1 1; ret", "uint -1 2; ret", "seq; item 9 8; uint -1 2; jump 5; ret", "uint -1 1; ret", "struct; uint 0 1; offset 6; uint 2 1; part 1 0 2; tail 0; ret")
	want.Entry = []int{0, 2, 4, 9, 11}
	decoderIs(t, s, want)
}

// P16.1, P16.2: the chapter's second table.
func TestSchemasOfExample(t *testing.T) {
	for _, s := range []api.Schema{{}, {Types: []api.Type{}, Roots: []api.Root{}}, {Types: make([]api.Type, 0, 9), Roots: make([]api.Root, 0, 9)}, built(t, ""), built(t, " # nothing")} {
		decoderIs(t, s, api.Program{})
	}
	want := program("bool -1; ret", "varint -1; ret", "union 2; arm 1 7; arm 7 9; bool 0; jump 10; varint 0; ret")
	want.Entry = []int{0, 2, 4}
	decoderIs(t, built(t, "type a=union{1:bool,7:varint};"), want)
	refusedIs(t, built(t, "type a=vector<vector<u64,1048576>,1048576>;"), api.ErrBig)
	for _, x := range []api.Type{vector(1, 0), list(1, 0), option(0), union(0), structure(0)} {
		refusedIs(t, schema(x), api.ErrSchema)
	}
}

// P16.2: the programs that chapter 14 tells of.
func TestExamplesOfCode(t *testing.T) {
	decoderIs(t, built(t, "type a=u16;"), program("uint -1 2; ret"))
	decoderIs(t, built(t, "type a=vector<u8,3>;"), program("uint -1 1; ret", "seq; uint -1 1; less 3 3; ret"))
	decoderIs(t, built(t, "type a=list<vector<u8,5>,9>;"), program("uint -1 1; ret", "seq; uint -1 1; less 5 3; ret", "seq; item 9 10; call -1 1; jump 7; ret"))
	decoderIs(t, built(t, "type a=option<vector<u8,5>>;"), program("uint -1 1; ret", "seq; uint -1 1; less 5 3; ret", "option 8; call 0 1; ret"))
}

// P16.2: how many instructions DOC.md's examples of the whole have, where nothing makes them fewer.
func TestExamplesOfWhole(t *testing.T) {
	for text, n := range map[string]int{"type l=list<list<u16,9>,3>;": 17, "type u=union{3:u16,200:option<varint>};": 14, "type  a = u8 ; # a byte": 2, "type a=struct{x:u8,y:u8,z:u8,w:u8};": 14} {
		s := built(t, text)
		if p := decoded(t, s); len(p.Code) != n {
			t.Errorf("P16.2: %s: %d instructions, want %d", text, len(p.Code), n)
		}
		decoderAll(t, s)
	}
}

// item: a type that others are made of: how a kid of it is read, the kid's number being k, and whether it is fixed.
type item struct {
	of    api.Type
	read  string
	fixed bool
}

// items: one of each kind that the table tells apart, each small enough for vectors of as many as may be.
func items() []item {
	return []item{
		{uN(1), "uint k 1", true}, {uN(2), "uint k 2", true}, {uN(4), "uint k 4", true}, {uN(8), "uint k 8", true}, {boolean(), "bool k", true}, {number(), "varint k", false},
		{vector(3, 0), "call k 6", true}, {structure(0, 4), "call k 7", true}, {vector(2, 7), "call k 8", true}, {structure(6, 3), "call k 9", true},
		{list(1, 0), "call k 10", false}, {list(1, 10), "call k 11", false}, {option(0), "call k 12", false}, {union(0, 4), "call k 13", false}, {vector(1, 10), "call k 14", false}, {structure(0, 10), "call k 15", false}, {option(12), "call k 16", false}, {option(5), "call k 17", false},
	}
}

// itemTypes: their types, with the numbers 0, 1, ..
func itemTypes() (out []api.Type) {
	for _, x := range items() {
		out = append(out, x.of)
	}
	return out
}

// itemRoutines: their routines, written out.
func itemRoutines() []string {
	return []string{
		"uint -1 1; ret", "uint -1 2; ret", "uint -1 4; ret", "uint -1 8; ret", "bool -1; ret", "varint -1; ret",
		"seq; [a] uint -1 1; less 3 a; ret", "struct; uint 0 1; bool 1; ret", "seq; [a] call -1 7; less 2 a; ret", "struct; call 0 6; uint 1 8; ret",
		"seq; [a] item 1 r; uint -1 1; jump a; [r] ret", "seq; first 1 r; jump s; [a] offset 4; [s] slots a; jump p; [b] part -1 -1 10; tail -1; [p] parts b; [r] ret", "option r; uint 0 1; [r] ret", "union 2; arm 200 x; arm 199 y; [x] uint 0 1; jump r; [y] bool 0; [r] ret", "seq; [a] offset 4; slots a; jump p; [b] part -1 -1 10; tail -1; [p] parts b; ret", "struct; uint 0 1; offset 5; part 1 0 10; tail 0; ret", "option r; call 0 12; [r] ret", "option r; varint 0; [r] ret",
	}
}

// lastIs: a type behind the items has that routine.
func lastIs(t *testing.T, last api.Type, text string) {
	t.Helper()
	decoderIs(t, schema(append(itemTypes(), last)...), program(append(itemRoutines(), text)...))
}

// kid: how a kid of that number is read.
func (x item) kid(k int) string { return strings.Replace(x.read, "k", strconv.Itoa(k), 1) }

// P16.2: a type of each kind.
func TestEachKind(t *testing.T) {
	decoderIs(t, schema(itemTypes()...), program(itemRoutines()...))
}

// P16.2: uN, bool and varint alone.
func TestLeaves(t *testing.T) {
	for _, w := range []int{1, 2, 4, 8} {
		decoderIs(t, schema(uN(w)), program(fmt.Sprintf("uint -1 %d; ret", w)))
	}
	decoderIs(t, schema(boolean()), program("bool -1; ret"))
	decoderIs(t, schema(number()), program("varint -1; ret"))
	decoderIs(t, schema(number(), uN(8), boolean(), uN(8)), program("varint -1; ret", "uint -1 8; ret", "bool -1; ret", "uint -1 8; ret"))
}

// P16.2: vectors and lists of one, of few and of as many items as may be, of each kind of items.
func TestVectorsAndLists(t *testing.T) {
	for of, x := range items() {
		for _, n := range []int{1, 2, 3, 64, 65, 255, 256, 1<<20 - 1, 1 << 20} {
			if x.fixed {
				lastIs(t, vector(n, of), fmt.Sprintf("seq; [a] %s; less %d a; ret", x.kid(-1), n))
				lastIs(t, list(n, of), fmt.Sprintf("seq; [a] item %d r; %s; jump a; [r] ret", n, x.kid(-1)))
				continue
			}
			lastIs(t, vector(n, of), fmt.Sprintf("seq; [a] offset %d; slots a; jump p; [b] part -1 -1 %d; tail -1; [p] parts b; ret", 4*n, of))
			lastIs(t, list(n, of), fmt.Sprintf("seq; first %d r; jump s; [a] offset 4; [s] slots a; jump p; [b] part -1 -1 %d; tail -1; [p] parts b; [r] ret", n, of))
		}
	}
}

// P16.2: options, unions of one arm and structs of one field, of each kind of type.
func TestOptionsAndSingles(t *testing.T) {
	for of, x := range items() {
		lastIs(t, option(of), fmt.Sprintf("option r; %s; [r] ret", x.kid(0)))
		lastIs(t, union(of), fmt.Sprintf("union 1; arm 200 x; [x] %s; ret", x.kid(0)))
		if x.fixed {
			lastIs(t, structure(of), fmt.Sprintf("struct; %s; ret", x.kid(0)))
		} else {
			lastIs(t, structure(of), fmt.Sprintf("struct; offset 4; part 0 0 %d; tail 0; ret", of))
		}
	}
}

// P16.2: unions of two arms and structs of two fields, of each two kinds of types; arms as they stand, not by their tags.
func TestPairs(t *testing.T) {
	bytes := []int{1, 2, 4, 8, 1, 0, 3, 2, 4, 11}
	for a, x := range items() {
		for b, y := range items() {
			lastIs(t, union(a, b), fmt.Sprintf("union 2; arm 200 x; arm 199 y; [x] %s; jump r; [y] %s; [r] ret", x.kid(0), y.kid(0)))
			tags := union(a, b)
			tags.Parts[0].Tag, tags.Parts[1].Tag = 0, 255
			lastIs(t, tags, fmt.Sprintf("union 2; arm 0 x; arm 255 y; [x] %s; jump r; [y] %s; [r] ret", x.kid(0), y.kid(0)))
			var text string
			switch {
			case x.fixed && y.fixed:
				text = fmt.Sprintf("struct; %s; %s; ret", x.kid(0), y.kid(1))
			case x.fixed:
				text = fmt.Sprintf("struct; %s; offset %d; part 1 0 %d; tail 0; ret", x.kid(0), bytes[a]+4, b)
			case y.fixed:
				text = fmt.Sprintf("struct; offset %d; %s; part 0 0 %d; tail 0; ret", bytes[b]+4, y.kid(1), a)
			default:
				text = fmt.Sprintf("struct; offset 8; offset 8; part 0 0 %d; tail 0; part 1 1 %d; tail 1; ret", a, b)
			}
			lastIs(t, structure(a, b), text)
		}
	}
}

// P16.2: unions of one arm to as many as may be, all alike and each of another type.
func TestManyArms(t *testing.T) {
	all := items()
	for n := 1; n <= 64; n++ {
		alike, mixed := make([]int, n), make([]int, n)
		arms := []string{fmt.Sprintf("union %d", n)}
		var reads, others []string
		for k := range n {
			mixed[k] = (k*7 + n) % len(all)
			arms = append(arms, fmt.Sprintf("arm %d x%d", 200-k, k))
			reads = append(reads, fmt.Sprintf("[x%d] uint 0 1", k))
			others = append(others, fmt.Sprintf("[x%d] %s", k, all[mixed[k]].kid(0)))
		}
		front := strings.Join(arms, "; ") + "; "
		lastIs(t, union(alike...), front+strings.Join(reads, "; jump r; ")+"; [r] ret")
		lastIs(t, union(mixed...), front+strings.Join(others, "; jump r; ")+"; [r] ret")
	}
	p, e := lower.Decoder(schema(append(itemTypes(), union(make([]int, 64)...))...))
	if n := len(p.Code) - p.Entry[len(items())]; e != api.OK || n != 3*64+1 {
		t.Errorf("P16.4: a union of 64 arms: %d, %d instructions", e, n)
	}
	refusedIs(t, schema(uN(1), union(make([]int, 65)...)), api.ErrSchema)
}

// P16.2: structs of one field to as many as may be: all fixed, all variable, mixed.
func TestManyFields(t *testing.T) {
	for n := 1; n <= 64; n++ {
		fixed, variable, mixed := []string{"struct"}, []string{"struct"}, []string{"struct"}
		var variableParts, mixedParts []string
		of := make([]int, n)
		size := 2*((n+1)/2) + 4*(n/2)
		for k := range n {
			fixed = append(fixed, fmt.Sprintf("uint %d 2", k))
			variable = append(variable, fmt.Sprintf("offset %d", 4*n))
			variableParts = append(variableParts, fmt.Sprintf("part %d %d 10; tail %d", k, k, k))
			of[k] = 1
			if k%2 == 0 {
				mixed = append(mixed, fmt.Sprintf("uint %d 2", k))
				continue
			}
			of[k] = 13
			mixed = append(mixed, fmt.Sprintf("offset %d", size))
			mixedParts = append(mixedParts, fmt.Sprintf("part %d %d 13; tail %d", k, k/2, k/2))
		}
		lastIs(t, structure(slices.Repeat([]int{1}, n)...), strings.Join(append(fixed, "ret"), "; "))
		lastIs(t, structure(slices.Repeat([]int{10}, n)...), strings.Join(slices.Concat(variable, variableParts, []string{"ret"}), "; "))
		lastIs(t, structure(of...), strings.Join(slices.Concat(mixed, mixedParts, []string{"ret"}), "; "))
	}
	refusedIs(t, schema(uN(1), structure(make([]int, 65)...)), api.ErrSchema)
}

// P16.2: fields of every kind, written out, and an offset that is the fixed part's length however great it is.
func TestFields(t *testing.T) {
	lastIs(t, structure(5, 1, 12, 7, 4, 10, 3, 8), "struct; offset 29; uint 1 2; offset 29; call 3 7; bool 4; offset 29; uint 6 8; call 7 8; part 0 0 5; tail 0; part 2 1 12; tail 1; part 5 2 10; tail 2; ret")
	lastIs(t, structure(13, 13, 13, 0), "struct; offset 13; offset 13; offset 13; uint 3 1; part 0 0 13; tail 0; part 1 1 13; tail 1; part 2 2 13; tail 2; ret")
	decoderIs(t, schema(uN(1), vector(1<<20, 0), list(1, 0), structure(1, 1, 1, 2, 1)), program("uint -1 1; ret", "seq; [a] uint -1 1; less 1048576 a; ret", "seq; [a] item 1 r; uint -1 1; jump a; [r] ret", "struct; call 0 1; call 1 1; call 2 1; offset 4194308; call 4 1; part 3 0 2; tail 0; ret"))
}

// P16.2: each kind over each kind, and over that again, by the model.
func TestEachOverEach(t *testing.T) {
	over := func(of int) (out []api.Type) {
		for _, n := range []int{1, 2, 17, 1 << 20} {
			out = append(out, vector(n, of), list(n, of))
		}
		return append(out, option(of), union(of), structure(of), union(of, 5, of), structure(of, 5, of), structure(0, of, 10))
	}
	met := map[api.Errno]int{}
	n := len(items())
	for of := range n {
		for i, x := range over(of) {
			s := schema(append(itemTypes(), x)...)
			met[decoderAll(t, s)]++
			for _, y := range over(n) {
				met[decoderAll(t, schema(append(slices.Clone(s.Types), y)...))]++
			}
			if i%3 == 0 {
				met[decoderAll(t, schema(append(slices.Clone(s.Types), over(n)[2:]...)...))]++
			}
		}
	}
	if met[api.OK] == 0 || met[api.ErrBig] == 0 || len(met) != 2 {
		t.Errorf("not each answer was met: %v", met)
	}
}

// P16.2: a type that is used in many places has one routine.
func TestUsedInManyPlaces(t *testing.T) {
	s := built(t, "type p=struct{x:u16,y:list<bool,3>}; type a=list<p,9>; type b=option<p>; type c=union{0:p,1:a,2:p}; type d=struct{a:p,b:p,c:b,d:p}; type e=vector<p,2>;")
	decoderIs(t, s, program(
		"uint -1 2; ret", "bool -1; ret", "seq; [a] item 3 r; bool -1; jump a; [r] ret", "struct; uint 0 2; offset 6; part 1 0 2; tail 0; ret",
		"seq; first 9 r; jump s; [a] offset 4; [s] slots a; jump p; [b] part -1 -1 3; tail -1; [p] parts b; [r] ret",
		"option r; call 0 3; [r] ret",
		"union 3; arm 0 x; arm 1 y; arm 2 z; [x] call 0 3; jump r; [y] call 0 4; jump r; [z] call 0 3; [r] ret",
		"struct; offset 16; offset 16; offset 16; offset 16; part 0 0 3; tail 0; part 1 1 3; tail 1; part 2 2 5; tail 2; part 3 3 3; tail 3; ret",
		"seq; [a] offset 8; slots a; jump p; [b] part -1 -1 3; tail -1; [p] parts b; ret"))
	doubled := schema(uN(1))
	for i := range 63 {
		doubled.Types = append(doubled.Types, union(i, i))
	}
	p, e := lower.Decoder(doubled)
	if e != api.OK || len(p.Code) != 2+63*7 {
		t.Errorf("P16.4: a union that doubles 63 times: %d, %d instructions", e, len(p.Code))
	}
	decoderAll(t, doubled)
}

// P16.2: roots and the names of fields say nothing.
func TestRootsSayNothing(t *testing.T) {
	s := built(t, "type b=list<a,3>; type a=struct{x:u8,y:varint}; type c=struct{x:b,y:a};")
	want := program("uint -1 1; ret", "varint -1; ret", "struct; uint 0 1; offset 5; part 1 0 1; tail 0; ret", "seq; first 3 r; jump s; [a] offset 4; [s] slots a; jump p; [b] part -1 -1 2; tail -1; [p] parts b; [r] ret", "struct; offset 8; offset 8; part 0 0 3; tail 0; part 1 1 2; tail 1; ret")
	decoderIs(t, s, want)
	decoderIs(t, schema(s.Types...), want)
	s.Roots = []api.Root{{Name: "z"}, {Name: "y"}, {Name: "x", Type: 3}}
	s.Types[2].Parts[0].Label = "q"
	decoderIs(t, s, want)
}

// P16.2: types as deep as may be, of each kind.
func TestDeepest(t *testing.T) {
	for _, next := range []func(i int) api.Type{option, func(i int) api.Type { return vector(1, i) }, func(i int) api.Type { return list(1, i) }, func(i int) api.Type { return union(i, 0) }, func(i int) api.Type { return structure(0, i) }} {
		for _, first := range []api.Type{boolean(), number(), uN(4)} {
			s := schema(first)
			for i := range 63 {
				s.Types = append(s.Types, next(i))
			}
			if e := decoderAll(t, s); e != api.OK {
				t.Errorf("P16.1: %s: error %d", brief(s), e)
			}
			s.Types = append(s.Types, next(63))
			refusedIs(t, s, api.ErrSchema)
		}
	}
	p := schema(number())
	texts := []string{"varint -1; ret"}
	for i := range 63 {
		p.Types = append(p.Types, option(i))
		texts = append(texts, "option r; "+[]string{"varint 0", fmt.Sprint("call 0 ", i)}[min(i, 1)]+"; [r] ret")
	}
	decoderIs(t, p, program(texts...))
}

// P16.2, P16.3, P16.4: schemas that look like chance.
func TestChance(t *testing.T) {
	d := dice(1)
	taken := 0
	for n := range 1500 {
		if decoderAll(t, chance(&d, n%90)) == api.OK {
			taken++
		}
	}
	if taken < 1400 {
		t.Errorf("only %d were taken", taken)
	}
}
