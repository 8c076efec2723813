package size_test

import (
	"slices"
	"testing"

	"mortise/api"
	"mortise/size"
	"mortise/types"
)

const huge = 1 << 62

// P10.2: the chapter's worked examples.
func TestOfExamples(t *testing.T) {
	for _, c := range []struct {
		text string
		want api.Extent
	}{
		{"u32", fixed(4, 1)}, {"bool", fixed(1, 1)}, {"varint", variable(1, 10, 1)},
		{"vector<u16, 3>", fixed(6, 2)}, {"vector<varint, 3>", variable(15, 42, 2)}, {"vector<vector<bool, 2>, 3>", fixed(6, 3)},
		{"list<u16, 3>", variable(0, 6, 2)}, {"list<varint, 3>", variable(0, 42, 2)}, {"list<list<u8, 2>, 3>", variable(0, 18, 3)},
		{"option<u64>", variable(1, 9, 2)}, {"option<option<bool>>", variable(1, 3, 3)},
		{"union { 0: u8, 9: varint }", variable(2, 11, 2)},
		{"struct { a: u8, b: u16 }", fixed(3, 2)}, {"struct { a: u8, b: varint, c: bool }", variable(7, 16, 2)},
		{"vector<vector<vector<vector<vector<vector<vector<u64, 1048576>, 1048576>, 1048576>, 1048576>, 1048576>, 1048576>, 1048576>", fixed(huge, 8)},
		{"struct { a: u8, b: list<varint, 9>, c: option<u16> }", variable(10, 1+4+9*14+4+3, 3)},
	} {
		s, last := built(t, "type a = "+c.text+";")
		got := ofAll(t, s)
		if got == nil || got[last] != c.want {
			t.Errorf("P10.2: %s: %+v, want %+v", c.text, got, c.want)
		}
	}
}

// P10.2: every row of the table, of fixed and of variable parts, one and several, written out.
func TestOfTable(t *testing.T) {
	for _, c := range []struct {
		text string
		want api.Extent
	}{
		{"u8", fixed(1, 1)}, {"u16", fixed(2, 1)}, {"u64", fixed(8, 1)},
		// Vectors.
		{"vector<u8,1>", fixed(1, 2)}, {"vector<u64,1>", fixed(8, 2)}, {"vector<bool,5>", fixed(5, 2)}, {"vector<u64,1048576>", fixed(8<<20, 2)},
		{"vector<struct{x:u8,y:u32},7>", fixed(35, 3)}, {"vector<vector<vector<u32,2>,3>,5>", fixed(120, 4)},
		{"vector<varint,1>", variable(5, 14, 2)}, {"vector<varint,1048576>", variable(5<<20, 14<<20, 2)}, {"vector<list<u8,9>,1>", variable(4, 13, 3)}, {"vector<list<u8,9>,4>", variable(16, 52, 3)},
		{"vector<option<u16>,3>", variable(15, 21, 3)}, {"vector<union{1:u8,2:u32},3>", variable(18, 27, 3)}, {"vector<struct{x:u8,y:varint},2>", variable(20, 38, 3)}, {"vector<vector<varint,2>,3>", variable(42, 96, 3)},
		// Lists.
		{"list<u8,1>", variable(0, 1, 2)}, {"list<bool,1048576>", variable(0, 1<<20, 2)}, {"list<u64,3>", variable(0, 24, 2)}, {"list<vector<u16,5>,3>", variable(0, 30, 3)}, {"list<struct{x:u8,y:u32},7>", variable(0, 35, 3)},
		{"list<varint,1>", variable(0, 14, 2)}, {"list<varint,1048576>", variable(0, 14<<20, 2)}, {"list<list<u8,9>,1>", variable(0, 13, 3)}, {"list<option<u16>,3>", variable(0, 21, 3)}, {"list<union{1:u8,2:u32},3>", variable(0, 27, 3)}, {"list<struct{x:u8,y:varint},2>", variable(0, 38, 3)}, {"list<vector<varint,2>,3>", variable(0, 96, 3)},
		// Options.
		{"option<bool>", variable(1, 2, 2)}, {"option<varint>", variable(1, 11, 2)}, {"option<vector<u16,9>>", variable(1, 19, 3)}, {"option<list<u8,7>>", variable(1, 8, 3)}, {"option<struct{x:u8,y:varint}>", variable(1, 16, 3)}, {"option<union{0:u64}>", variable(1, 10, 3)},
		// Unions.
		{"union{7:u16}", variable(3, 3, 2)}, {"union{7:varint}", variable(2, 11, 2)}, {"union{0:u64,1:u8,255:u32}", variable(2, 9, 2)}, {"union{0:u8,1:u8}", variable(2, 2, 2)},
		{"union{3:list<u8,9>,2:u64,1:varint}", variable(1, 11, 3)}, {"union{3:u64,2:option<list<varint,2>>,1:u16}", variable(2, 30, 4)}, {"union{0:u32,1:u64}", variable(5, 9, 2)}, {"union{0:u64,1:vector<u8,3>}", variable(4, 9, 3)},
		// Structs.
		{"struct{a:u64}", fixed(8, 2)}, {"struct{a:bool,b:u16,c:u32,d:u64}", fixed(15, 2)}, {"struct{a:struct{a:u8,b:vector<u16,3>},b:u8}", fixed(8, 4)}, {"struct{a:u8,b:u8,c:struct{x:struct{y:bool}}}", fixed(3, 4)},
		{"struct{a:varint}", variable(5, 14, 2)}, {"struct{a:varint,b:varint}", variable(10, 28, 2)}, {"struct{a:list<u8,9>}", variable(4, 13, 3)}, {"struct{a:list<u8,9>,b:u64}", variable(12, 21, 3)}, {"struct{a:u64,b:option<u8>}", variable(13, 14, 3)},
		{"struct{a:union{0:u8,1:u16},b:struct{a:varint},c:struct{a:u16}}", variable(17, 27, 3)}, {"struct{a:struct{a:u8,b:list<u8,2>},b:struct{a:u8}}", variable(10, 12, 4)},
	} {
		s, last := built(t, "type a="+c.text+";")
		got := ofAll(t, s)
		if got == nil || got[last] != c.want {
			t.Errorf("P10.2: %s: %+v, want %+v", c.text, got, c.want)
		}
	}
}

// leaves: a type of each kind that is made of others, and of each that isn't: fixed and variable ones, with numbers 0 to 11.
func leaves() []api.Type {
	return []api.Type{uN(1), uN(2), uN(4), uN(8), boolean(), number(), vector(3, 1), list(3, 1), option(3), union(0, 5), structure(0, 2), structure(0, 5)}
}

// P10.2: each kind over each kind, and over that again, by the model; numbers at the edges.
func TestOfEachOverEach(t *testing.T) {
	over := func(of int) []api.Type {
		var out []api.Type
		for _, n := range []int{1, 2, 3, 255, 256, 1<<20 - 1, 1 << 20} {
			out = append(out, vector(n, of), list(n, of))
		}
		out = append(out, option(of), union(of), structure(of), union(of, of, of), structure(of, of, of))
		for other := range leaves() {
			out = append(out, union(of, other), union(other, of), structure(of, other), structure(other, of), structure(other, of, other))
		}
		return out
	}
	n := len(leaves())
	for of := range leaves() {
		s := schema(slices.Concat(leaves(), over(of))...)
		ofAll(t, s)
		for i := range over(of) {
			ofAll(t, schema(slices.Concat(s.Types, over(n+i))...))
		}
	}
}

// P10.2: structs and unions of one to as many parts as may be.
func TestOfManyParts(t *testing.T) {
	for n := 1; n <= 64; n++ {
		s := schema(uN(2), number(), structure(make([]int, n)...), structure(slices.Repeat([]int{1}, n)...), union(make([]int, n)...), union(slices.Repeat([]int{1}, n)...))
		got := ofAll(t, s)
		want := []api.Extent{fixed(2, 1), variable(1, 10, 1), fixed(2*n, 2), variable(5*n, 14*n, 2), variable(3, 3, 2), variable(2, 11, 2)}
		if !slices.Equal(got, want) {
			t.Errorf("P10.2: of %d parts: %v, want %v", n, got, want)
		}
		// The least, the greatest, the deepest and the one that is not fixed, in each place.
		for at := range n {
			of := slices.Repeat([]int{2}, n)
			of[at] = 3
			for _, odd := range []api.Type{uN(1), uN(8), boolean(), vector(2, 0), vector(9, 2), option(2), list(1, 0), list(9, 1)} {
				ofAll(t, schema(uN(1), uN(8), uN(4), odd, structure(of...), union(of...)))
			}
		}
	}
}

// P10.2: a schema of no types has no extents, with spare room or without.
func TestOfNothing(t *testing.T) {
	for _, s := range []api.Schema{{}, {Types: []api.Type{}}, {Types: make([]api.Type, 0, 9), Roots: make([]api.Root, 0, 9)}} {
		ofIs(t, s, nil, api.OK)
	}
}

// P10.2: roots say nothing of extents.
func TestOfRoots(t *testing.T) {
	s, _ := built(t, "type b=list<a,3>; type a=struct{x:u8,y:bool};")
	want := []api.Extent{fixed(1, 1), fixed(1, 1), fixed(2, 2), variable(0, 6, 3)}
	ofIs(t, s, want, api.OK)
	ofIs(t, schema(s.Types...), want, api.OK)
	s.Roots = []api.Root{{Name: "z"}, {Name: "y"}, {Name: "x", Type: 3}}
	ofIs(t, s, want, api.OK)
}

// tower: n types, each an option of the one ahead.
func tower(n int) []api.Type {
	out := []api.Type{boolean()}
	for i := range n - 1 {
		out = append(out, option(i))
	}
	return out
}

// refused: schemas that types.Check refuses, and its errors.
func refused() []struct {
	s api.Schema
	e api.Errno
} {
	root := func(names ...string) []api.Root {
		var out []api.Root
		for _, n := range names {
			out = append(out, api.Root{Name: n})
		}
		return out
	}
	many := []api.Root{}
	for i := range 257 {
		many = append(many, api.Root{Name: "r" + string(rune('a'+i/26)) + string(rune('a'+i%26))})
	}
	return []struct {
		s api.Schema
		e api.Errno
	}{
		{schema(api.Type{}), api.ErrSchema}, {schema(option(0)), api.ErrSchema}, {schema(boolean(), list(0, 0)), api.ErrSchema}, {schema(boolean(), vector(1<<20+1, 0)), api.ErrSchema}, {schema(boolean(), list(-1, 0)), api.ErrSchema},
		{schema(uN(3)), api.ErrSchema}, {schema(uN(8), option(2)), api.ErrSchema}, {schema(uN(8), option(-1)), api.ErrSchema}, {schema(uN(8), structure()), api.ErrSchema}, {schema(uN(8), structure(0, 1)), api.ErrSchema},
		{schema(uN(8), structure(make([]int, 65)...)), api.ErrSchema}, {schema(uN(8), union(make([]int, 65)...)), api.ErrSchema}, {schema(uN(8), api.Type{Kind: api.KindName}), api.ErrSchema}, {schema(uN(8), api.Type{Kind: -1}), api.ErrSchema},
		{schema(tower(65)...), api.ErrDeep}, {schema(append(tower(65), api.Type{})...), api.ErrSchema}, {api.Schema{Types: tower(65), Roots: root("")}, api.ErrDeep},
		{api.Schema{Types: tower(64), Roots: root("")}, api.ErrSchema}, {api.Schema{Types: tower(1), Roots: root("a", "a")}, api.ErrSchema}, {api.Schema{Types: tower(1), Roots: []api.Root{{Name: "a", Type: 1}}}, api.ErrSchema}, {api.Schema{Roots: root("a")}, api.ErrSchema}, {api.Schema{Types: tower(1), Roots: many}, api.ErrSchema},
	}
}

// P10.2: the error of types.Check, and nothing beside it.
func TestOfRefused(t *testing.T) {
	for _, c := range refused() {
		if f := types.Check(c.s); f.Err != c.e {
			t.Fatalf("P9.3: Check of %s: %v, want %d", brief(c.s), f, c.e)
		}
		ofIs(t, c.s, nil, c.e)
	}
}

// P10.2, P10.5: types as deep as may be, of each kind: the depth, and what one more is answered.
func TestOfDeepest(t *testing.T) {
	for _, next := range []func(i int) api.Type{option, func(i int) api.Type { return vector(1, i) }, func(i int) api.Type { return list(1<<20, i) }, func(i int) api.Type { return union(i, 0) }, func(i int) api.Type { return structure(0, i) }} {
		for _, first := range []api.Type{boolean(), number()} {
			s := schema(first)
			for i := range 63 {
				s.Types = append(s.Types, next(i))
			}
			got := ofAll(t, s)
			for i, x := range got {
				if x.Depth != i+1 {
					t.Errorf("P10.2: type %d of %s has the depth %d", i, brief(s), x.Depth)
				}
			}
			s.Types = append(s.Types, next(63))
			ofIs(t, s, nil, api.ErrDeep)
		}
	}
}

// P10.2: each is reckoned once: types of which each is made of 2 or 64 of the one below end as soon as others, in rows as deep as may be and in many such rows.
func TestOfDoubled(t *testing.T) {
	for _, parts := range []int{2, 3, 64} {
		for _, first := range []api.Type{uN(8), number()} {
			var s api.Schema
			for range 40 {
				base := len(s.Types)
				s.Types = append(s.Types, first)
				for i := range 60 {
					of := slices.Repeat([]int{base + i}, parts)
					s.Types = append(s.Types, []api.Type{structure(of...), union(of...)}[(i+base)%2])
				}
			}
			ofAll(t, s)
		}
		s := schema(number())
		for i := range 63 {
			s.Types = append(s.Types, union(slices.Repeat([]int{i}, parts)...))
		}
		if got := ofAll(t, s); got == nil || got[63] != variable(64, 73, 64) {
			t.Errorf("P10.2: unions of %d of the one below: %v", parts, got)
		}
	}
	s := schema(uN(1))
	for i := range 63 {
		s.Types = append(s.Types, structure(i, i))
	}
	got := ofAll(t, s)
	for i := range got {
		if want := fixed(1<<min(i, 62), i+1); got[i] != want {
			t.Errorf("P10.5: 1 doubled %d times: %+v, want %+v", i, got[i], want)
		}
	}
	// 200 types, each of two of the one below, are deeper than MaxDepth.
	for i := 63; i < 199; i++ {
		s.Types = append(s.Types, structure(i, i))
	}
	ofIs(t, s, nil, api.ErrDeep)
}

// sized: adds a fixed type of so many bytes, 1 to Huge; its number.
func sized(s *api.Schema, bytes int) int {
	add := func(t api.Type) int {
		s.Types = append(s.Types, t)
		return len(s.Types) - 1
	}
	var fields []int
	for bit := range 63 {
		if bytes>>bit&1 == 0 {
			continue
		}
		power := add(uN(1))
		for left := bit; left > 0; left -= 20 {
			power = add(vector(1<<min(left, 20), power))
		}
		fields = append(fields, power)
	}
	return add(structure(fields...))
}

// P10.5: sums and products at Huge, one below it and beyond it, of each kind, written out.
func TestOfAtHuge(t *testing.T) {
	bound := func(n int) int { return min(n, huge) }
	for below := range 40 {
		n := huge - below
		var s api.Schema
		x := sized(&s, n)
		plain := len(s.Types)
		s.Types = append(s.Types, list(1, x), uN(1), number()) // plain to plain + 2
		depth := extentsOf(s)[x].Depth
		s.Types = append(s.Types,
			vector(1, x), vector(2, x), structure(x), structure(x, plain+1), structure(plain+1, x),
			option(x), union(x), union(plain+1, x), list(2, x),
			vector(1, plain), list(1, plain), structure(plain), structure(plain, plain+1), option(plain), structure(x, plain+2))
		got := ofAll(t, s)
		if got == nil {
			continue
		}
		want := []api.Extent{
			fixed(n, depth+1), fixed(huge, depth+1), fixed(n, depth+1), fixed(bound(n+1), depth+1), fixed(bound(n+1), depth+1),
			variable(1, bound(n+1), depth+1), variable(bound(n+1), bound(n+1), depth+1), variable(2, bound(n+1), depth+1), variable(0, huge, depth+1),
			variable(4, bound(n+4), depth+2), variable(0, bound(n+4), depth+2), variable(4, bound(n+4), depth+2), variable(5, bound(n+5), depth+2), variable(1, bound(n+1), depth+2), variable(bound(n+5), bound(n+14), depth+1),
		}
		if got[x] != fixed(n, depth) || got[plain] != variable(0, n, depth+1) {
			t.Errorf("P10.5: of Huge - %d bytes: %+v, %+v", below, got[x], got[plain])
		}
		for i, w := range want {
			if g := got[plain+3+i]; g != w {
				t.Errorf("P10.5: over a type of Huge - %d bytes: number %d: %+v, want %+v", below, i, g, w)
			}
		}
	}
}

// P10.5: products about Huge: each number of items over a type of as many bytes as it goes into Huge, and about that.
func TestOfProducts(t *testing.T) {
	for _, n := range []int{1, 2, 3, 5, 7, 255, 1000, 65536, 1<<20 - 1, 1 << 20} {
		for more := -12; more <= 3; more++ {
			bytes := huge/n + more
			if bytes > huge {
				continue
			}
			var s api.Schema
			x := sized(&s, bytes)
			s.Types = append(s.Types, list(1, x))
			y := len(s.Types) - 1
			s.Types = append(s.Types, vector(n, x), list(n, x), vector(n, y), list(n, y))
			got := ofAll(t, s)
			if got == nil {
				continue
			}
			// Twice a bound of at most 2^62 is held by 64 bits without a sign: so is n times bytes, about Huge.
			exact := func(each int) int {
				if uint64(n)*uint64(each) > huge {
					return huge
				}
				return n * each
			}
			if got[y+1].Least != exact(bytes) || got[y+2].Most != exact(bytes) || got[y+3].Most != exact(bytes+4) || got[y+4].Most != exact(bytes+4) || got[y+3].Least != 4*n {
				t.Errorf("P10.5: %d of %d bytes: %+v", n, bytes, got[y+1:])
			}
		}
	}
}

// P10.5: Huge is reached by sums and products over and over, and never passed; a least that stays small stays so.
func TestOfBeyondHuge(t *testing.T) {
	for _, next := range []func(i int) api.Type{
		func(i int) api.Type { return vector(1<<20, i) }, func(i int) api.Type { return list(1<<20, i) }, func(i int) api.Type { return structure(slices.Repeat([]int{i}, 64)...) },
		func(i int) api.Type { return structure(i, i) }, func(i int) api.Type { return union(i, 0, i) }, func(i int) api.Type { return union(i, i) }, option,
	} {
		for _, first := range []api.Type{uN(8), number(), boolean()} {
			s := schema(first)
			for i := range 10 {
				s.Types = append(s.Types, vector(1<<20, i))
			}
			for i := 10; i < 63; i++ {
				s.Types = append(s.Types, next(i))
			}
			got := ofAll(t, s)
			if len(got) != 64 || got[10].Most != huge || got[10].Least != huge || got[63].Most != huge {
				t.Errorf("P10.5: %s: %v", brief(s), got)
			}
		}
	}
	s := schema(uN(8), vector(1<<20, 0), vector(1<<20, 1), vector(1<<20, 2), vector(1<<20, 3), union(4, 0), union(4, 4), option(4), list(1, 4), structure(8, 0), structure(8, 6), vector(2, 5))
	want := []api.Extent{fixed(8, 1), fixed(8<<20, 2), fixed(8<<40, 3), fixed(huge, 4), fixed(huge, 5), variable(9, huge, 6), variable(huge, huge, 6), variable(1, huge, 6), variable(0, huge, 6), variable(12, huge, 7), variable(huge, huge, 7), variable(26, huge, 7)}
	ofIs(t, s, want, api.OK)
}

// P10.2, P10.5: schemas that look like chance.
func TestOfChance(t *testing.T) {
	d := dice(10)
	for n := range 300 {
		ofAll(t, chance(&d, n, []int{3, 300, 1 << 20}[n%3]))
	}
	ofAll(t, chance(&d, 20000, 1<<20))
}

// P10.5: a list whose number is made greater has no smaller Most, and a struct with a field more neither.
func TestOfGrows(t *testing.T) {
	d := dice(11)
	for range 60 {
		s := chance(&d, 40, 1<<d.below(21))
		ahead, _ := size.Of(s)
		for i := range s.Types {
			x := &s.Types[i]
			switch x.Kind {
			case api.KindList:
				for _, n := range []int{x.N + 1, 2 * x.N, x.N + d.below(1<<20), 1 << 20} {
					turned(&x.N, []int{max(x.N, min(n, 1<<20))}, func() { grew(t, s, ahead, i) })
				}
			case api.KindStruct:
				for of := range i {
					more := append(slices.Clone(x.Parts), api.Part{Label: "more", Type: of})
					turned(&x.Parts, [][]api.Part{more, slices.Concat(more[len(x.Parts):], x.Parts)}, func() { grew(t, s, ahead, i) })
				}
			}
		}
	}
}

// grew tells where the Most of a type is smaller than it was.
func grew(t *testing.T, s api.Schema, ahead []api.Extent, i int) {
	t.Helper()
	got, e := size.Of(s)
	if e != api.OK || got[i].Most < ahead[i].Most {
		t.Errorf("P10.5: type %d of %s: %d, was %+v", i, brief(s), e, ahead[i])
	}
}
