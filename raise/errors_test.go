package raise_test

import (
	"fmt"
	"slices"
	"testing"

	"mortise/api"
	"mortise/code"
	"mortise/raise"
	"mortise/sound"
	"mortise/types"
)

// tower: n types, each an option of the one ahead.
func tower(n int) []api.Type {
	out := []api.Type{boolean()}
	for i := range n - 1 {
		out = append(out, option(i))
	}
	return out
}

// refused: schemas that types.Check refuses, with each of its errors and for each of its reasons.
func refused() []api.Schema {
	root := func(names ...string) []api.Root {
		var out []api.Root
		for _, n := range names {
			out = append(out, api.Root{Name: n})
		}
		return out
	}
	many := []api.Root{}
	for i := range 257 {
		many = append(many, api.Root{Name: fmt.Sprint("r", i)})
	}
	twice := structure(0, 0)
	twice.Parts[1].Label = twice.Parts[0].Label
	tags := union(0, 0)
	tags.Parts[1].Tag = tags.Parts[0].Tag
	far := union(0)
	far.Parts[0].Tag = 256
	return []api.Schema{
		schema(api.Type{}), schema(option(0)), schema(boolean(), list(0, 0)), schema(boolean(), vector(0, 0)), schema(boolean(), vector(1<<20+1, 0)), schema(boolean(), list(1<<20+1, 0)), schema(boolean(), list(-1, 0)), schema(boolean(), vector(-1, 0)),
		schema(uN(3)), schema(uN(0)), schema(uN(16)), schema(uN(8), option(2)), schema(uN(8), option(-1)), schema(uN(8), vector(1, 1)), schema(uN(8), list(1, 1)), schema(uN(8), structure()), schema(uN(8), structure(0, 1)), schema(uN(8), structure(-1)), schema(uN(8), union(0, 1)), schema(uN(8), twice), schema(uN(8), tags), schema(uN(8), far),
		schema(uN(8), structure(make([]int, 65)...)), schema(uN(8), union(make([]int, 65)...)), schema(uN(8), union()), schema(uN(8), api.Type{Kind: api.KindName}), schema(uN(8), api.Type{Kind: -1}),
		schema(tower(65)...), schema(append(tower(65), api.Type{})...), {Types: tower(65), Roots: root("")},
		{Types: tower(64), Roots: root("")}, {Types: tower(1), Roots: root("a", "a")}, {Types: tower(1), Roots: []api.Root{{Name: "a", Type: 1}}}, {Types: tower(1), Roots: []api.Root{{Name: "a", Type: -1}}}, {Roots: root("a")}, {Types: tower(1), Roots: many},
	}
}

// P17.2: ErrSchema, whatever types.Check says.
func TestRefused(t *testing.T) {
	met := map[api.Errno]int{}
	for _, s := range refused() {
		f := types.Check(s)
		if f.Err == api.OK {
			t.Fatalf("P9.3: Check of %s: it is taken", brief(s))
		}
		met[f.Err]++
		refusedIs(t, s, api.ErrSchema)
	}
	if met[api.ErrSchema] == 0 || met[api.ErrDeep] == 0 {
		t.Errorf("not each of types.Check's errors was met: %v", met)
	}
}

// fixedOf: types of which the last one is fixed and has so many bytes (1 to 2^32), the first one is u8, and none has more.
func fixedOf(bytes int) []api.Type {
	const each = 4096
	if bytes <= each {
		return []api.Type{uN(1), vector(bytes, 0)}
	}
	out := []api.Type{uN(1), vector(each, 0), vector(bytes/each, 1)}
	if rest := bytes % each; rest > 0 {
		out = append(out, vector(rest, 0), structure(2, 3))
	}
	return out
}

// sizedAs: types of which the last one is the one that has the greatest size, n times m in all.
func sizedAs(n, m int) map[string][]api.Type {
	over := func(below []api.Type, last func(of int) api.Type) []api.Type {
		return append(below, last(len(below)-1))
	}
	all := n * m
	variable := []api.Type{uN(1), list(m-4, 0)}
	behind := append(fixedOf(all-6), option(0))
	return map[string][]api.Type{
		"a vector of fixed":    over(fixedOf(m), func(of int) api.Type { return vector(n, of) }),
		"a vector of variable": over(slices.Clone(variable), func(of int) api.Type { return vector(n, of) }),
		"a list of fixed":      over(fixedOf(m), func(of int) api.Type { return list(n, of) }),
		"a list of variable":   over(slices.Clone(variable), func(of int) api.Type { return list(n, of) }),
		"an option":            over(fixedOf(all-1), option),
		"a union":              over(fixedOf(all-1), func(of int) api.Type { return union(0, of, 0) }),
		"a fixed struct":       over(fixedOf(all-2), func(of int) api.Type { return structure(0, of, 0) }),
		"a variable struct":    over(slices.Clone(behind), func(of int) api.Type { return structure(of, of-1) }),
		"a struct of structs":  over(over(slices.Clone(behind[:len(behind)-1]), func(of int) api.Type { return structure(of) }), func(of int) api.Type { return structure(0, of, 0, 0, 0, 0, 0) }),
	}
}

// P17.2: a type of each kind whose greatest size is MaxSize, or one less, or one above it.
func TestGreatestSizes(t *testing.T) {
	for _, c := range []struct {
		n, m int
		e    api.Errno
	}{{255, 65793, api.OK}, {16, 1 << 20, api.OK}, {256, 65536, api.OK}, {97, 172961, api.ErrBig}, {241, 69615, api.OK}, {673, 24929, api.ErrBig}} {
		all := c.n * c.m
		if all < 1<<24-1 || all > 1<<24+1 || c.e == api.OK && all > 1<<24 || c.e != api.OK && all <= 1<<24 {
			t.Fatalf("the test's numbers: %d times %d", c.n, c.m)
		}
		for name, l := range sizedAs(c.n, c.m) {
			s := schema(l...)
			known := extentsOf(s)
			if most := known[len(l)-1].most; most.Cmp(num(all)) != 0 {
				t.Fatalf("%s: the test's type has %v bytes, not %d", name, most, all)
			}
			if e := encoderAll(t, s); e != c.e {
				t.Errorf("%s of %d bytes: the model says %d", name, all, e)
			}
			if c.e != api.OK {
				refusedIs(t, s, api.ErrBig)
				if e := encoderAll(t, schema(l[:len(l)-1]...)); e != api.OK {
					t.Errorf("%s of %d bytes: what it is made of is refused: %d", name, all, e)
				}
			}
		}
	}
}

// P17.2: a type that is too great, in each place, whether a root leads to it or not, however far above MaxSize it is.
func TestTooGreat(t *testing.T) {
	for _, n := range []int{9, 1 << 10, 1 << 20} {
		great := []api.Type{uN(8), vector(1<<18, 0), vector(n, 1)}
		for behind := range 4 {
			l := append(slices.Clone(great), []api.Type{boolean(), option(0), structure(0, 3), list(2, 1)}[:behind]...)
			refusedIs(t, schema(l...), api.ErrBig)
			refusedIs(t, api.Schema{Types: l, Roots: []api.Root{{Name: "a"}}}, api.ErrBig)
		}
	}
	for _, next := range []func(i int) api.Type{func(i int) api.Type { return vector(1<<20, i) }, func(i int) api.Type { return list(1<<20, i) }, func(i int) api.Type { return structure(i, i, i, i, i, i, i, i) }} {
		s := schema(uN(8))
		for i := range 60 {
			s.Types = append(s.Types, next(i))
		}
		refusedIs(t, s, api.ErrBig)
	}
}

// filled: types, u8 and a list of it ahead, whose routines have so many instructions in all (10 or more).
func filled(instructions int) []api.Type {
	out := make([]api.Type, 0, instructions/2+1)
	out = append(out, uN(1), list(1, 0))
	left := instructions - 7
	if left%2 == 1 {
		out = append(out, option(0))
		left -= 3
	}
	for range left / 2 {
		out = append(out, boolean())
	}
	return out
}

// filledCode: their program.
func filledCode(instructions int) api.Program {
	texts := []string{"number 0 1; ret", "upto 1; jump a; [i] number -1 1; [a] again i; ret", "maybe r; append 0; [r] ret"}
	p := program(texts[:2+1-instructions%2]...)
	for len(p.Code) < instructions {
		p.Entry = append(p.Entry, len(p.Code))
		p.Code = append(p.Code, api.Instr{Op: 35}, api.Instr{Op: 20})
	}
	return p
}

// longRow: a type behind those of filled, and its routine.
type longRow struct {
	last api.Type
	text string
}

func longRows() []longRow {
	rows := []longRow{
		{uN(8), "number 0 8; ret"}, {boolean(), "flag 0; ret"}, {number(), "leb; ret"}, {option(0), "maybe r; append 0; [r] ret"},
		{vector(3, 0), "many 3; [i] number -1 1; again i; ret"}, {list(3, 0), "upto 3; jump a; [i] number -1 1; [a] again i; ret"},
		{vector(3, 1), "many 3; room -1; [s] slot -1; append 1; again s; ret"}, {list(3, 1), "upto 3; room -1; jump a; [s] slot -1; append 1; [a] again s; ret"},
		{structure(0), "fields 1; number 0 1; ret"}, {structure(0, 1), "fields 2; room 5; number 0 1; slot 1; append 1; ret"},
		{union(0), "choice 1; arm 200 x; [x] append 0; ret"},
	}
	wide := schema(uN(1), list(1, 0), union(slices.Repeat([]int{1}, 64)...), structure(slices.Repeat([]int{1}, 64)...))
	for own := 2; own < 4; own++ {
		rows = append(rows, longRow{wide.Types[own], routineText(wide, own, extentsOf(wide))})
	}
	return rows
}

// P17.2: programs of MaxCode instructions, and of one above, with each kind of type as the last one.
func TestLongest(t *testing.T) {
	for i, row := range longRows() {
		n := len(routine(row.text, 0))
		want := filledCode(api.MaxCode - n)
		want.Entry = append(want.Entry, len(want.Code))
		want.Code = append(want.Code, routine(row.text, len(want.Code))...)
		s := schema(append(filled(api.MaxCode-n), row.last)...)
		if len(want.Code) != 1<<20 || len(want.Entry) != len(s.Types) {
			t.Fatalf("the test's program has %d instructions, %d entries, %d types", len(want.Code), len(want.Entry), len(s.Types))
		}
		got, e := raise.Encoder(s)
		if e != api.OK || !same(got, want) {
			t.Errorf("P17.2: %s: a program of MaxCode instructions: %d, %d instructions, %d entries", row.text, e, len(got.Code), len(got.Entry))
			continue
		}
		if f := code.Check(got); f.Err != api.OK {
			t.Errorf("P17.3: %s: code.Check says %v", row.text, f)
		}
		if i%5 == 2 { // so long a program takes a while
			if f := sound.Verify(got); f.Err != api.OK {
				t.Errorf("P17.3: %s: sound.Verify says %v", row.text, f)
			}
		}
		refusedIs(t, schema(append(filled(api.MaxCode-n+1), row.last)...), api.ErrLong)
		refusedIs(t, schema(append(s.Types, boolean())...), api.ErrLong)
	}
}

// P17.2: more types than may be, and more instructions by far, the last of them or the first.
func TestTooLong(t *testing.T) {
	for _, n := range []int{1<<19 + 1, 1 << 20, 1<<20 + 1, 1 << 21} {
		refusedIs(t, schema(slices.Repeat([]api.Type{number()}, n)...), api.ErrLong)
	}
	wide := structure(slices.Repeat([]int{1}, 64)...)
	refusedIs(t, schema(slices.Concat([]api.Type{uN(1), list(1, 0)}, slices.Repeat([]api.Type{wide}, 1<<20/131+1))...), api.ErrLong)
	refusedIs(t, schema(slices.Concat([]api.Type{uN(1), list(1, 0)}, slices.Repeat([]api.Type{wide}, 1<<20/131+1), []api.Type{boolean(), option(0)})...), api.ErrLong)
}

// P17.2: ErrSchema ahead of ErrBig ahead of ErrLong, wherever each is.
func TestOrderOfErrors(t *testing.T) {
	great := []api.Type{uN(8), vector(1<<20, 0), vector(1<<20, 1)}
	long := slices.Repeat([]api.Type{boolean()}, 1<<19+1)
	big := structure(slices.Repeat([]int{1}, 64)...)
	bad := []api.Type{{}, uN(3), option(1 << 40), api.Type{Kind: api.KindList}}
	for _, x := range bad {
		refusedIs(t, schema(append(slices.Clone(great), x)...), api.ErrSchema)
		refusedIs(t, schema(slices.Concat([]api.Type{x}, great)...), api.ErrSchema)
	}
	refusedIs(t, schema(append(tower(65), vector(1<<20, 0), vector(1<<20, 65))...), api.ErrSchema)
	refusedIs(t, schema(append(tower(64), vector(1<<20, 0), vector(1<<20, 64))...), api.ErrBig)
	refusedIs(t, api.Schema{Types: great, Roots: []api.Root{{Name: "a", Type: 3}}}, api.ErrSchema)
	refusedIs(t, api.Schema{Types: great, Roots: []api.Root{{Name: "a", Type: 2}}}, api.ErrBig)

	refusedIs(t, schema(append(slices.Clone(long), bad[0])...), api.ErrSchema)
	refusedIs(t, schema(append([]api.Type{bad[1]}, long...)...), api.ErrSchema)
	refusedIs(t, api.Schema{Types: long, Roots: []api.Root{{Name: "a", Type: len(long)}}}, api.ErrSchema)
	refusedIs(t, api.Schema{Types: long, Roots: []api.Root{{Name: "a", Type: len(long) - 1}}}, api.ErrLong)

	refusedIs(t, schema(slices.Concat(great, long)...), api.ErrBig)
	refusedIs(t, schema(slices.Concat(long, []api.Type{vector(1<<20, 0), structure(slices.Repeat([]int{len(long)}, 17)...)})...), api.ErrBig)
	refusedIs(t, schema(slices.Concat(long, []api.Type{vector(1<<20, 0), structure(slices.Repeat([]int{len(long)}, 16)...)})...), api.ErrLong)
	refusedIs(t, schema(slices.Concat(great, slices.Repeat([]api.Type{big}, 1<<14))...), api.ErrBig)
	refusedIs(t, schema(slices.Concat(great, long, []api.Type{bad[2]})...), api.ErrSchema)
	refusedIs(t, api.Schema{Types: slices.Concat(great, long), Roots: []api.Root{{Name: "list"}}}, api.ErrSchema)
}
