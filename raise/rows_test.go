package raise_test

import (
	"fmt"
	"slices"
	"strconv"
	"strings"
	"testing"

	"mortise/api"
	"mortise/raise"
)

// P17.2: the chapter's table of examples, and where each routine begins.
func TestExamples(t *testing.T) {
	encoderIs(t, schema(uN(2)), program("number 0 2; ret"))
	want := program("number 0 1; ret", "fields 2; number 0 1; number 1 1; ret")
	want.Entry = []int{0, 2}
	encoderIs(t, schema(uN(1), structure(0, 0)), want)
	want = program("leb; ret", "upto 9; room -1; jump 7; slot -1; append 0; again 5; ret")
	want.Entry = []int{0, 2}
	encoderIs(t, schema(number(), list(9, 0)), want)
	u := union(0, 1)
	u.Parts[0].Tag, u.Parts[1].Tag = 0, 5
	want = program("number 0 1; ret", "flag 0; ret", "choice 2; arm 0 7; arm 5 9; append 0; ret; append 1; ret")
	want.Entry = []int{0, 2, 4}
	encoderIs(t, schema(uN(1), boolean(), u), want)
}

// P17.2: no types, and schemas that are refused.
func TestNoTypes(t *testing.T) {
	for _, s := range []api.Schema{{}, {Types: []api.Type{}, Roots: []api.Root{}}, {Types: make([]api.Type, 0, 9), Roots: make([]api.Root, 0, 9)}, built(t, ""), built(t, " # nothing")} {
		encoderIs(t, s, api.Program{Encodes: true})
	}
	refusedIs(t, built(t, "type a=vector<vector<u64,1048576>,1048576>;"), api.ErrBig)
	for _, x := range []api.Type{vector(1, 0), list(1, 0), option(0), union(0), structure(0)} {
		refusedIs(t, schema(x), api.ErrSchema)
	}
}

// P17.2: the programs that chapter 14 tells of.
func TestExamplesOfCode(t *testing.T) {
	encoderIs(t, built(t, "type a=u16;"), program("number 0 2; ret"))
	encoderIs(t, built(t, "type a=vector<u8,3>;"), program("number 0 1; ret", "many 3; number -1 1; again 3; ret"))
	encoderIs(t, built(t, "type a=list<vector<u8,5>,9>;"), program("number 0 1; ret", "many 5; number -1 1; again 3; ret", "upto 9; jump 9; each 5 1; again 8; ret"))
	encoderIs(t, built(t, "type a=list<list<u8,5>,9>;"), program("number 0 1; ret", "upto 5; jump 5; number -1 1; again 4; ret", "upto 9; room -1; jump 12; slot -1; append 1; again 10; ret"))
	encoderIs(t, built(t, "type a=struct{a:u8,b:list<u16,9>,c:u8};"), program("number 0 1; ret", "number 0 2; ret", "upto 9; jump 7; number -1 2; again 6; ret", "number 0 1; ret", "fields 3; room 6; number 0 1; slot 1; append 2; number 5 1; ret"))
	encoderIs(t, built(t, "type a=option<vector<u8,5>>;"), program("number 0 1; ret", "many 5; number -1 1; again 3; ret", "maybe 8; append 1; ret"))
}

// P17.2: how many instructions DOC.md's examples of the whole have, where nothing makes them fewer.
func TestExamplesOfWhole(t *testing.T) {
	for text, n := range map[string]int{"type l=list<list<u16,9>,3>;": 14, "type u=union{3:u16,200:option<varint>};": 14, "type  a = u8 ; # a byte": 2, "type a=struct{x:u8,y:u8,z:u8,w:u8};": 14} {
		s := built(t, text)
		if p := encoded(t, s); len(p.Code) != n {
			t.Errorf("P17.2: %s: %d instructions, want %d", text, len(p.Code), n)
		}
		encoderAll(t, s)
	}
}

// item: a type that others are made of: how it is written as a fixed part at a place (told by k) and as a fixed item, and its bytes; a variable one has none of these.
type item struct {
	of    api.Type
	part  string
	item  string
	bytes int
}

func (x item) fixed() bool { return x.bytes > 0 }

// at: how it is written at a place, be it fixed or not.
func (x item) at(place, of int) string {
	if x.fixed() {
		return strings.Replace(x.part, "k", strconv.Itoa(place), 1)
	}
	return fmt.Sprintf("slot %d; append %d", place, of)
}

// takes: its bytes in a fixed part.
func (x item) takes() int {
	if x.fixed() {
		return x.bytes
	}
	return 4
}

// items: one of each kind that the table tells apart, each small enough for vectors of as many as may be.
func items() []item {
	out := []item{
		{uN(1), "number k 1", "number -1 1", 1}, {uN(2), "number k 2", "number -1 2", 2}, {uN(4), "number k 4", "number -1 4", 4}, {uN(8), "number k 8", "number -1 8", 8}, {boolean(), "flag k", "flag -1", 1}, {of: number()},
		{vector(3, 0), "enter k 6", "each 3 6", 3}, {structure(0, 4), "enter k 7", "each 2 7", 2}, {vector(2, 7), "enter k 8", "each 4 8", 4}, {structure(6, 3), "enter k 9", "each 11 9", 11},
	}
	for _, variable := range []api.Type{list(1, 0), list(1, 10), option(0), union(0, 4), vector(1, 10), structure(0, 10), option(12), option(5)} {
		out = append(out, item{of: variable})
	}
	return out
}

// itemTypes: their types, with the numbers 0, 1, ..
func itemTypes() (out []api.Type) {
	for _, x := range items() {
		out = append(out, x.of)
	}
	return out
}

// itemRoutines: their routines, written out.
func itemRoutines() []string {
	return []string{
		"number 0 1; ret", "number 0 2; ret", "number 0 4; ret", "number 0 8; ret", "flag 0; ret", "leb; ret",
		"many 3; [i] number -1 1; again i; ret", "fields 2; number 0 1; flag 1; ret", "many 2; [i] each 2 7; again i; ret", "fields 2; enter 0 6; number 3 8; ret",
		"upto 1; jump a; [i] number -1 1; [a] again i; ret", "upto 1; room -1; jump a; [s] slot -1; append 10; [a] again s; ret", "maybe r; append 0; [r] ret", "choice 2; arm 200 x; arm 199 y; [x] append 0; ret; [y] append 4; ret", "many 1; room -1; [s] slot -1; append 10; again s; ret", "fields 2; room 5; number 0 1; slot 1; append 10; ret", "maybe r; append 12; [r] ret", "maybe r; append 5; [r] ret",
	}
}

// lastIs: a type behind the items has that routine.
func lastIs(t *testing.T, last api.Type, text string) {
	t.Helper()
	encoderIs(t, schema(append(itemTypes(), last)...), program(append(itemRoutines(), text)...))
}

// P17.2: a type of each kind.
func TestEachKind(t *testing.T) {
	encoderIs(t, schema(itemTypes()...), program(itemRoutines()...))
}

// P17.2: uN, bool and varint alone.
func TestLeaves(t *testing.T) {
	for _, w := range []int{1, 2, 4, 8} {
		encoderIs(t, schema(uN(w)), program(fmt.Sprintf("number 0 %d; ret", w)))
	}
	encoderIs(t, schema(boolean()), program("flag 0; ret"))
	encoderIs(t, schema(number()), program("leb; ret"))
	encoderIs(t, schema(number(), uN(8), boolean(), uN(8)), program("leb; ret", "number 0 8; ret", "flag 0; ret", "number 0 8; ret"))
}

// P17.2: vectors and lists of one, of few and of as many items as may be, of each kind of items.
func TestVectorsAndLists(t *testing.T) {
	for of, x := range items() {
		for _, n := range []int{1, 2, 3, 64, 65, 255, 256, 1<<20 - 1, 1 << 20} {
			if x.fixed() {
				lastIs(t, vector(n, of), fmt.Sprintf("many %d; [i] %s; again i; ret", n, x.item))
				lastIs(t, list(n, of), fmt.Sprintf("upto %d; jump a; [i] %s; [a] again i; ret", n, x.item))
				continue
			}
			lastIs(t, vector(n, of), fmt.Sprintf("many %d; room -1; [s] slot -1; append %d; again s; ret", n, of))
			lastIs(t, list(n, of), fmt.Sprintf("upto %d; room -1; jump a; [s] slot -1; append %d; [a] again s; ret", n, of))
		}
	}
}

// P17.2: a fixed item's size is told whatever it is, from one byte on up to as many as may be.
func TestSizesOfItems(t *testing.T) {
	for _, bytes := range []int{1, 2, 7, 8, 9, 255, 256, 65535, 65536, 1 << 20} {
		ahead := []string{"number 0 1; ret", fmt.Sprintf("many %d; [i] number -1 1; again i; ret", bytes)}
		encoderIs(t, schema(uN(1), vector(bytes, 0), vector(16, 1)), program(append(ahead, fmt.Sprintf("many 16; [i] each %d 1; again i; ret", bytes))...))
		encoderIs(t, schema(uN(1), vector(bytes, 0), list(9, 1)), program(append(ahead, fmt.Sprintf("upto 9; jump a; [i] each %d 1; [a] again i; ret", bytes))...))
	}
	encoderIs(t, schema(uN(8), vector(1<<20, 0), vector(2, 1), vector(1, 2), list(1, 2)), program("number 0 8; ret", "many 1048576; [i] number -1 8; again i; ret", "many 2; [i] each 8388608 1; again i; ret", "many 1; [i] each 16777216 2; again i; ret", "upto 1; jump a; [i] each 16777216 2; [a] again i; ret"))
}

// P17.2: options, unions of one arm and structs of one field, of each kind of type.
func TestOptionsAndSingles(t *testing.T) {
	for of, x := range items() {
		lastIs(t, option(of), fmt.Sprintf("maybe r; append %d; [r] ret", of))
		lastIs(t, union(of), fmt.Sprintf("choice 1; arm 200 x; [x] append %d; ret", of))
		if x.fixed() {
			lastIs(t, structure(of), fmt.Sprintf("fields 1; %s; ret", x.at(0, of)))
		} else {
			lastIs(t, structure(of), fmt.Sprintf("fields 1; room 4; slot 0; append %d; ret", of))
		}
	}
}

// P17.2: unions of two arms and structs of two fields, of each two kinds of types; arms as they stand, not by their tags.
func TestPairs(t *testing.T) {
	for a, x := range items() {
		for b, y := range items() {
			appends := fmt.Sprintf("[x] append %d; ret; [y] append %d; ret", a, b)
			lastIs(t, union(a, b), "choice 2; arm 200 x; arm 199 y; "+appends)
			tags := union(a, b)
			tags.Parts[0].Tag, tags.Parts[1].Tag = 0, 255
			lastIs(t, tags, "choice 2; arm 0 x; arm 255 y; "+appends)
			room := ""
			if !x.fixed() || !y.fixed() {
				room = fmt.Sprintf("room %d; ", x.takes()+y.takes())
			}
			lastIs(t, structure(a, b), fmt.Sprintf("fields 2; %s%s; %s; ret", room, x.at(0, a), y.at(x.takes(), b)))
		}
	}
}

// P17.2: unions of one arm to as many as may be, all alike and each of another type.
func TestManyArms(t *testing.T) {
	n := len(items())
	for many := 1; many <= 64; many++ {
		alike, mixed := make([]int, many), make([]int, many)
		arms := []string{fmt.Sprintf("choice %d", many)}
		var appends, others []string
		for k := range many {
			mixed[k] = (k*7 + many) % n
			arms = append(arms, fmt.Sprintf("arm %d x%d", 200-k, k))
			appends = append(appends, fmt.Sprintf("[x%d] append 0; ret", k))
			others = append(others, fmt.Sprintf("[x%d] append %d; ret", k, mixed[k]))
		}
		lastIs(t, union(alike...), strings.Join(append(slices.Clone(arms), appends...), "; "))
		lastIs(t, union(mixed...), strings.Join(append(slices.Clone(arms), others...), "; "))
	}
	refusedIs(t, schema(uN(1), union(make([]int, 65)...)), api.ErrSchema)
}

// P17.2: structs of one field to as many as may be: all fixed, all variable, mixed.
func TestManyFields(t *testing.T) {
	all := items()
	for n := 1; n <= 64; n++ {
		fixed, variable, mixed := []string{}, []string{}, []string{}
		of := make([]int, n)
		at, bare := 0, true
		for k := range n {
			fixed = append(fixed, fmt.Sprintf("number %d 2", 2*k))
			variable = append(variable, fmt.Sprintf("slot %d; append 10", 4*k))
			of[k] = (k*5 + n) % len(all)
			x := all[of[k]]
			mixed = append(mixed, x.at(at, of[k]))
			at += x.takes()
			bare = bare && x.fixed()
		}
		if !bare {
			mixed = append([]string{fmt.Sprintf("room %d", at)}, mixed...)
		}
		front := fmt.Sprintf("fields %d; ", n)
		lastIs(t, structure(slices.Repeat([]int{1}, n)...), front+strings.Join(fixed, "; ")+"; ret")
		lastIs(t, structure(slices.Repeat([]int{10}, n)...), fmt.Sprintf("%sroom %d; %s; ret", front, 4*n, strings.Join(variable, "; ")))
		lastIs(t, structure(of...), front+strings.Join(mixed, "; ")+"; ret")
	}
	refusedIs(t, schema(uN(1), structure(make([]int, 65)...)), api.ErrSchema)
}

// P17.2: fields of every kind, written out, and places however great they are.
func TestFields(t *testing.T) {
	lastIs(t, structure(5, 1, 12, 7, 4, 10, 3, 8), "fields 8; room 29; slot 0; append 5; number 4 2; slot 6; append 12; enter 10 7; flag 12; slot 13; append 10; number 17 8; enter 25 8; ret")
	lastIs(t, structure(13, 13, 13, 0), "fields 4; room 13; slot 0; append 13; slot 4; append 13; slot 8; append 13; number 12 1; ret")
	lastIs(t, structure(9, 4, 9, 0, 6), "fields 5; enter 0 9; flag 11; enter 12 9; number 23 1; enter 24 6; ret")
	ahead := []string{"number 0 1; ret", "many 1048576; [i] number -1 1; again i; ret", "upto 1; jump a; [i] number -1 1; [a] again i; ret"}
	encoderIs(t, schema(uN(1), vector(1<<20, 0), list(1, 0), structure(1, 1, 1, 2, 1, 0)), program(append(ahead, "fields 6; room 4194309; enter 0 1; enter 1048576 1; enter 2097152 1; slot 3145728; append 2; enter 3145732 1; number 4194308 1; ret")...))
	most := "fields 16"
	for k := range 16 {
		most += fmt.Sprintf("; enter %d 1", k<<20)
	}
	encoderIs(t, schema(uN(1), vector(1<<20, 0), list(1, 0), structure(make([]int, 16)...), structure(slices.Repeat([]int{1}, 16)...)), program(append(ahead, "fields 16; number 0 1; number 1 1; number 2 1; number 3 1; number 4 1; number 5 1; number 6 1; number 7 1; number 8 1; number 9 1; number 10 1; number 11 1; number 12 1; number 13 1; number 14 1; number 15 1; ret", most+"; ret")...))
}

// P17.2: the last place that may be, of each kind of field, one byte below MaxSize.
func TestLastPlaces(t *testing.T) {
	front := []api.Type{uN(1), boolean(), vector(1, 0), vector(1<<20-1, 0), vector(1<<20, 0)}
	texts := []string{"number 0 1; ret", "flag 0; ret", "many 1; [i] number -1 1; again i; ret", "many 1048575; [i] number -1 1; again i; ret", "many 1048576; [i] number -1 1; again i; ret"}
	for last, text := range []string{"number 16777215 1", "flag 16777215", "enter 16777215 2"} {
		of := append(slices.Repeat([]int{4}, 15), 3, last)
		var parts []string
		for k := range 15 {
			parts = append(parts, fmt.Sprintf("enter %d 4", k<<20))
		}
		want := fmt.Sprintf("fields 17; %s; enter %d 3; %s; ret", strings.Join(parts, "; "), 15<<20, text)
		encoderIs(t, schema(append(slices.Clone(front), structure(of...))...), program(append(slices.Clone(texts), want)...))
	}
}

// P17.2: each kind over each kind, and over that again, by the model.
func TestEachOverEach(t *testing.T) {
	over := func(of int) (out []api.Type) {
		for _, n := range []int{1, 2, 17, 1 << 20} {
			out = append(out, vector(n, of), list(n, of))
		}
		return append(out, option(of), union(of), structure(of), union(of, 5, of), structure(of, 5, of), structure(0, of, 10))
	}
	met := map[api.Errno]int{}
	n := len(items())
	for of := range n {
		for i, x := range over(of) {
			s := schema(append(itemTypes(), x)...)
			met[encoderAll(t, s)]++
			for _, y := range over(n) {
				met[encoderAll(t, schema(append(slices.Clone(s.Types), y)...))]++
			}
			if i%3 == 0 {
				met[encoderAll(t, schema(append(slices.Clone(s.Types), over(n)[2:]...)...))]++
			}
		}
	}
	if met[api.OK] == 0 || met[api.ErrBig] == 0 || len(met) != 2 {
		t.Errorf("not each answer was met: %v", met)
	}
}

// P17.2: a type that is used in many places has one routine.
func TestUsedInManyPlaces(t *testing.T) {
	s := built(t, "type p=struct{x:u16,y:list<bool,3>}; type a=list<p,9>; type b=option<p>; type c=union{0:p,1:a,2:p}; type d=struct{a:p,b:p,c:b,d:p}; type e=vector<p,2>;")
	encoderIs(t, s, program(
		"number 0 2; ret", "flag 0; ret", "upto 3; jump a; [i] flag -1; [a] again i; ret", "fields 2; room 6; number 0 2; slot 2; append 2; ret",
		"upto 9; room -1; jump a; [s] slot -1; append 3; [a] again s; ret",
		"maybe r; append 3; [r] ret",
		"choice 3; arm 0 x; arm 1 y; arm 2 z; [x] append 3; ret; [y] append 4; ret; [z] append 3; ret",
		"fields 4; room 16; slot 0; append 3; slot 4; append 3; slot 8; append 5; slot 12; append 3; ret",
		"many 2; room -1; [s] slot -1; append 3; again s; ret"))
	s = built(t, "type p=struct{x:u16,y:bool}; type a=list<p,9>; type b=vector<p,2>; type c=struct{a:p,b:p,c:b,d:p};")
	encoderIs(t, s, program("number 0 2; ret", "flag 0; ret", "fields 2; number 0 2; flag 2; ret", "upto 9; jump a; [i] each 3 2; [a] again i; ret", "many 2; [i] each 3 2; again i; ret", "fields 4; enter 0 2; enter 3 2; enter 6 4; enter 12 2; ret"))
	doubled := schema(uN(1))
	for i := range 63 {
		doubled.Types = append(doubled.Types, union(i, i))
	}
	p, e := raise.Encoder(doubled)
	if e != api.OK || len(p.Code) != 2+63*7 {
		t.Errorf("P17.2: a union that doubles 63 times: %d, %d instructions", e, len(p.Code))
	}
	encoderAll(t, doubled)
}

// P17.2: roots and the names of fields say nothing.
func TestRootsSayNothing(t *testing.T) {
	s := built(t, "type b=list<a,3>; type a=struct{x:u8,y:varint}; type c=struct{x:b,y:a};")
	want := program("number 0 1; ret", "leb; ret", "fields 2; room 5; number 0 1; slot 1; append 1; ret", "upto 3; room -1; jump a; [s] slot -1; append 2; [a] again s; ret", "fields 2; room 8; slot 0; append 3; slot 4; append 2; ret")
	encoderIs(t, s, want)
	encoderIs(t, schema(s.Types...), want)
	s.Roots = []api.Root{{Name: "z"}, {Name: "y"}, {Name: "x", Type: 3}}
	s.Types[2].Parts[0].Label = "q"
	encoderIs(t, s, want)
}

// P17.2: types as deep as may be, of each kind.
func TestDeepest(t *testing.T) {
	for _, next := range []func(i int) api.Type{option, func(i int) api.Type { return vector(1, i) }, func(i int) api.Type { return list(1, i) }, func(i int) api.Type { return union(i, 0) }, func(i int) api.Type { return structure(0, i) }} {
		for _, first := range []api.Type{boolean(), number(), uN(4)} {
			s := schema(first)
			for i := range 63 {
				s.Types = append(s.Types, next(i))
			}
			if e := encoderAll(t, s); e != api.OK {
				t.Errorf("P17.2: %s: error %d", brief(s), e)
			}
			s.Types = append(s.Types, next(63))
			refusedIs(t, s, api.ErrSchema)
		}
	}
	p := schema(number())
	texts := []string{"leb; ret"}
	for i := range 63 {
		p.Types = append(p.Types, option(i))
		texts = append(texts, fmt.Sprintf("maybe r; append %d; [r] ret", i))
	}
	encoderIs(t, p, program(texts...))
}

// P17.2, P17.3, P17.4: schemas that look like chance.
func TestChance(t *testing.T) {
	d := dice(1)
	taken := 0
	for n := range 1500 {
		if encoderAll(t, chance(&d, n%90)) == api.OK {
			taken++
		}
	}
	if taken < 1400 {
		t.Errorf("only %d were taken", taken)
	}
}
