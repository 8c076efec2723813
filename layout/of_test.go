package layout_test

import (
	"slices"
	"testing"

	"mortise/api"
	"mortise/layout"
	"mortise/types"
)

const huge = 1 << 62

// laid: a layout of so many bytes with these slots.
func laid(size int, slots ...api.Slot) api.Layout { return api.Layout{Size: size, Slots: slots} }

// fix: the slot of a fixed part.
func fix(at, size int) api.Slot { return api.Slot{At: at, Size: size} }

// off: the slot of a variable part.
func off(at int) api.Slot { return api.Slot{At: at, Variable: true, Size: 4} }

// rootIs tells where the layout of a text's type is another one than said, or that of another of its types than the model's.
func rootIs(t *testing.T, text string, want api.Layout) {
	t.Helper()
	s, last := built(t, "type a="+text+";")
	ofAll(t, s)
	if got, e := layout.Of(s); e != api.OK || len(got) != len(s.Types) || !same(got[last:last+1], []api.Layout{want}) {
		t.Errorf("P13.2: %s: %+v, %d, want %+v", text, got, e, want)
	}
}

// P13.2: the chapter's examples.
func TestOfExamples(t *testing.T) {
	rootIs(t, "struct{a:u8,b:list<u8,9>,c:u32}", laid(9, fix(0, 1), off(1), fix(5, 4)))
	rootIs(t, "vector<u16,3>", laid(6, fix(0, 2)))
	rootIs(t, "vector<varint,3>", laid(12, off(0)))
	rootIs(t, "list<bool,9>", laid(0, fix(0, 1)))
	rootIs(t, "u8", api.Layout{})
}

// P13.2: types without slots.
func TestOfNoSlots(t *testing.T) {
	for _, text := range []string{"u8", "u16", "u32", "u64", "bool", "varint", "option<u8>", "option<varint>", "option<struct{a:u8,b:varint}>", "option<vector<u8,3>>", "option<list<u8,3>>", "union{0:u8}", "union{0:u8,1:varint,255:list<u8,9>}", "union{7:struct{a:u8,b:u8}}", "union{1:vector<u8,2>,2:option<bool>}"} {
		rootIs(t, text, api.Layout{})
	}
}

// P13.2: vectors and lists of each kind of type, written out.
func TestOfItems(t *testing.T) {
	for _, c := range []struct {
		item string
		slot api.Slot
	}{
		{"u8", fix(0, 1)}, {"u16", fix(0, 2)}, {"u32", fix(0, 4)}, {"u64", fix(0, 8)}, {"bool", fix(0, 1)},
		{"vector<u16,5>", fix(0, 10)}, {"vector<vector<bool,3>,7>", fix(0, 21)}, {"vector<u64,1048576>", fix(0, 8<<20)}, {"struct{a:u32}", fix(0, 4)}, {"struct{a:u8,b:u64,c:bool}", fix(0, 10)}, {"struct{a:struct{a:u8,b:vector<u16,3>},b:u8}", fix(0, 8)}, {"vector<struct{a:u8,b:u16},5>", fix(0, 15)},
		{"varint", off(0)}, {"list<u8,9>", off(0)}, {"list<list<u8,9>,9>", off(0)}, {"option<u64>", off(0)}, {"union{0:u64}", off(0)}, {"vector<varint,3>", off(0)}, {"vector<list<u8,1>,1048576>", off(0)}, {"struct{a:varint}", off(0)}, {"struct{a:u64,b:u64,c:list<u8,1>}", off(0)}, {"struct{a:struct{a:option<u8>}}", off(0)}, {"vector<struct{a:u8,b:varint},5>", off(0)},
	} {
		rootIs(t, "vector<"+c.item+",1>", laid(c.slot.Size, c.slot))
		rootIs(t, "vector<"+c.item+",3>", laid(3*c.slot.Size, c.slot))
		rootIs(t, "vector<"+c.item+",1048576>", laid(c.slot.Size<<20, c.slot))
		for _, n := range []string{"1", "3", "1048576"} {
			rootIs(t, "list<"+c.item+","+n+">", laid(0, c.slot))
		}
		rootIs(t, "struct{a:"+c.item+"}", laid(c.slot.Size, c.slot))
	}
}

// P13.2: structs of fixed and variable fields in every order, written out.
func TestOfFields(t *testing.T) {
	for _, c := range []struct {
		text string
		want api.Layout
	}{
		{"struct{a:u8}", laid(1, fix(0, 1))}, {"struct{a:bool,b:u16,c:u32,d:u64}", laid(15, fix(0, 1), fix(1, 2), fix(3, 4), fix(7, 8))},
		{"struct{a:varint}", laid(4, off(0))}, {"struct{a:varint,b:varint,c:varint}", laid(12, off(0), off(4), off(8))},
		{"struct{a:u64,b:varint}", laid(12, fix(0, 8), off(8))}, {"struct{a:varint,b:u64}", laid(12, off(0), fix(4, 8))}, {"struct{a:varint,b:u8,c:varint,d:u16}", laid(11, off(0), fix(4, 1), off(5), fix(9, 2))},
		{"struct{a:vector<u16,5>,b:vector<varint,5>,c:bool}", laid(15, fix(0, 10), off(10), fix(14, 1))},
		{"struct{a:struct{x:u8,y:u16},b:struct{x:u8,y:varint},c:struct{z:u8}}", laid(8, fix(0, 3), off(3), fix(7, 1))},
		{"struct{a:list<u64,9>,b:option<u64>,c:union{1:u64},d:bool,e:list<varint,9>}", laid(17, off(0), off(4), off(8), fix(12, 1), off(13))},
		{"struct{a:vector<struct{x:u32,y:vector<bool,3>},11>,b:u8}", laid(78, fix(0, 77), fix(77, 1))},
		{"struct{a:vector<u64,1048576>,b:vector<u64,1048576>,c:u8}", laid(16<<20+1, fix(0, 8<<20), fix(8<<20, 8<<20), fix(16<<20, 1))},
	} {
		rootIs(t, c.text, c.want)
	}
}

// kinds: a type of each kind, fixed and variable ones, with numbers 0 to 14.
func kinds() []api.Type {
	return []api.Type{uN(1), uN(2), uN(4), uN(8), boolean(), number(), vector(3, 1), list(3, 1), option(3), union(0, 5), structure(0, 2), structure(0, 5), vector(3, 5), list(3, 5), structure(11, 10)}
}

// P13.2: each kind over each kind, and over that again, by the model; numbers at the edges.
func TestOfEachOverEach(t *testing.T) {
	over := func(of int) []api.Type {
		var out []api.Type
		for _, n := range []int{1, 2, 3, 255, 256, 1<<20 - 1, 1 << 20} {
			out = append(out, vector(n, of), list(n, of))
		}
		out = append(out, option(of), union(of), structure(of), union(of, of, of), structure(of, of, of))
		for other := range kinds() {
			out = append(out, union(of, other), structure(of, other), structure(other, of), structure(other, of, other))
		}
		return out
	}
	n := len(kinds())
	for of := range kinds() {
		s := schema(slices.Concat(kinds(), over(of))...)
		ofAll(t, s)
		for i := range over(of) {
			ofAll(t, schema(slices.Concat(s.Types, over(n+i))...))
		}
	}
}

// P13.2: structs of one field to as many as may be, and of one more; an odd one in each place.
func TestOfManyFields(t *testing.T) {
	for n := 1; n <= 64; n++ {
		var fixed, variable, both api.Layout
		var mixed []int
		for k := range n {
			fixed.Slots = append(fixed.Slots, fix(2*k, 2))
			variable.Slots = append(variable.Slots, off(4*k))
			at := k/2*6 + k%2*2
			both.Slots = append(both.Slots, []api.Slot{fix(at, 2), off(at)}[k%2])
			mixed = append(mixed, k%2)
		}
		fixed.Size, variable.Size, both.Size = 2*n, 4*n, n/2*6+n%2*2
		s := schema(uN(2), number(), structure(make([]int, n)...), structure(slices.Repeat([]int{1}, n)...), structure(mixed...))
		ofIs(t, s, []api.Layout{{}, {}, fixed, variable, both}, api.OK)
		for at := range n {
			of := slices.Repeat([]int{2}, n)
			of[at] = 3
			for _, odd := range []api.Type{uN(1), uN(8), boolean(), vector(2, 0), vector(9, 2), option(2), list(1, 0), list(9, 1), structure(0, 1)} {
				ofAll(t, schema(uN(1), uN(8), uN(4), odd, structure(of...)))
			}
		}
	}
	ofIs(t, schema(uN(2), structure(make([]int, 65)...)), nil, api.ErrSchema)
}

// P13.2: a schema of no types has no layouts, with spare room or without.
func TestOfNothing(t *testing.T) {
	for _, s := range []api.Schema{{}, {Types: []api.Type{}}, {Types: make([]api.Type, 0, 9), Roots: make([]api.Root, 0, 9)}} {
		ofIs(t, s, nil, api.OK)
	}
}

// P13.2: each type's by its number; roots and the names of fields say nothing.
func TestOfRoots(t *testing.T) {
	s, _ := built(t, "type b=list<a,3>; type a=struct{x:u8,y:bool}; type c=struct{x:b,y:a};")
	want := []api.Layout{{}, {}, laid(2, fix(0, 1), fix(1, 1)), laid(0, fix(0, 2)), laid(6, off(0), fix(4, 2))}
	ofIs(t, s, want, api.OK)
	ofIs(t, schema(s.Types...), want, api.OK)
	s.Roots = []api.Root{{Name: "z"}, {Name: "y"}, {Name: "x", Type: 3}}
	s.Types[2].Parts[0].Label = "q"
	ofIs(t, s, want, api.OK)
}

// tower: n types, each an option of the one ahead.
func tower(n int) []api.Type {
	out := []api.Type{boolean()}
	for i := range n - 1 {
		out = append(out, option(i))
	}
	return out
}

// refused: schemas that types.Check refuses, with each of its errors and for each of its reasons.
func refused() []api.Schema {
	root := func(names ...string) []api.Root {
		var out []api.Root
		for _, n := range names {
			out = append(out, api.Root{Name: n})
		}
		return out
	}
	many := []api.Root{}
	for i := range 257 {
		many = append(many, api.Root{Name: "r" + string(rune('a'+i/26)) + string(rune('a'+i%26))})
	}
	twice := structure(0, 0)
	twice.Parts[1].Label = twice.Parts[0].Label
	tags := union(0, 0)
	tags.Parts[1].Tag = tags.Parts[0].Tag
	return []api.Schema{
		schema(api.Type{}), schema(option(0)), schema(boolean(), list(0, 0)), schema(boolean(), vector(0, 0)), schema(boolean(), vector(1<<20+1, 0)), schema(boolean(), list(-1, 0)), schema(boolean(), vector(-1, 0)),
		schema(uN(3)), schema(uN(0)), schema(uN(8), option(2)), schema(uN(8), option(-1)), schema(uN(8), vector(1, 1)), schema(uN(8), structure()), schema(uN(8), structure(0, 1)), schema(uN(8), structure(-1)), schema(uN(8), twice), schema(uN(8), tags),
		schema(uN(8), structure(make([]int, 65)...)), schema(uN(8), union(make([]int, 65)...)), schema(uN(8), union()), schema(uN(8), api.Type{Kind: api.KindName}), schema(uN(8), api.Type{Kind: -1}),
		schema(tower(65)...), schema(append(tower(65), api.Type{})...), {Types: tower(65), Roots: root("")},
		{Types: tower(64), Roots: root("")}, {Types: tower(1), Roots: root("a", "a")}, {Types: tower(1), Roots: []api.Root{{Name: "a", Type: 1}}}, {Types: tower(1), Roots: []api.Root{{Name: "a", Type: -1}}}, {Roots: root("a")}, {Types: tower(1), Roots: many},
	}
}

// P13.2: ErrSchema, whatever types.Check says, and nothing beside it.
func TestOfRefused(t *testing.T) {
	met := map[api.Errno]int{}
	for _, s := range refused() {
		f := types.Check(s)
		if f.Err == api.OK {
			t.Fatalf("P9.3: Check of %s: it is taken", brief(s))
		}
		met[f.Err]++
		ofIs(t, s, nil, api.ErrSchema)
	}
	if met[api.ErrSchema] == 0 || met[api.ErrDeep] == 0 {
		t.Errorf("not each of types.Check's errors was met: %v", met)
	}
}

// P13.2: types as deep as may be, of each kind, and one more.
func TestOfDeepest(t *testing.T) {
	for _, next := range []func(i int) api.Type{option, func(i int) api.Type { return vector(1, i) }, func(i int) api.Type { return vector(1<<20, i) }, func(i int) api.Type { return list(1<<20, i) }, func(i int) api.Type { return union(i, 0) }, func(i int) api.Type { return structure(0, i) }} {
		for _, first := range []api.Type{boolean(), number()} {
			s := schema(first)
			for i := range 63 {
				s.Types = append(s.Types, next(i))
			}
			if ofAll(t, s) == nil {
				t.Errorf("P9.3: %s is refused", brief(s))
			}
			s.Types = append(s.Types, next(63))
			ofIs(t, s, nil, api.ErrSchema)
		}
	}
}

// P13.2: each type is laid out once: types of which each is made of 2 or 64 of the one below end as soon as others.
func TestOfDoubled(t *testing.T) {
	for _, parts := range []int{2, 64} {
		for _, first := range []api.Type{uN(8), number()} {
			var s api.Schema
			for range 40 {
				base := len(s.Types)
				s.Types = append(s.Types, first)
				for i := range 60 {
					s.Types = append(s.Types, structure(slices.Repeat([]int{base + i}, parts)...))
				}
			}
			ofAll(t, s)
		}
	}
	s := schema(uN(1))
	want := []api.Layout{{}}
	for i := range 63 {
		s.Types = append(s.Types, structure(i, i))
		each := 1 << min(i, 62)
		want = append(want, laid(1<<min(i+1, 62), fix(0, each), fix(each, each)))
	}
	ofIs(t, s, want, api.OK)
}

// sized: adds a fixed type of so many bytes, 1 to Huge; its number.
func sized(s *api.Schema, bytes int) int {
	add := func(t api.Type) int {
		s.Types = append(s.Types, t)
		return len(s.Types) - 1
	}
	var fields []int
	for bit := range 63 {
		if bytes>>bit&1 == 0 {
			continue
		}
		power := add(uN(1))
		for left := bit; left > 0; left -= 20 {
			power = add(vector(1<<min(left, 20), power))
		}
		fields = append(fields, power)
	}
	return add(structure(fields...))
}

// P13.2: sums at Huge, one below it and beyond it, in sizes and places, written out.
func TestOfSumsAtHuge(t *testing.T) {
	bound := func(n int) int { return min(n, huge) }
	for below := range 12 {
		n := huge - below
		var s api.Schema
		x := sized(&s, n)
		y := x + 1 // a u8; behind it a varint
		s.Types = append(s.Types, uN(1), number(),
			structure(x), structure(x, y), structure(y, x), structure(x, y+1), structure(y+1, x), structure(y+1, y+1, x, y, y),
			structure(x, x), structure(x, x, x, y), vector(1, x), vector(2, x), list(2, x), option(x), vector(3, y+1))
		ofAll(t, s)
		got, _ := layout.Of(s)
		want := []api.Layout{
			laid(n, fix(0, n)), laid(bound(n+1), fix(0, n), fix(n, 1)), laid(bound(n+1), fix(0, 1), fix(1, n)), laid(bound(n+4), fix(0, n), off(n)), laid(bound(n+4), off(0), fix(4, n)),
			laid(bound(n+10), off(0), off(4), fix(8, n), fix(bound(n+8), 1), fix(bound(n+9), 1)),
			laid(huge, fix(0, n), fix(n, n)), laid(huge, fix(0, n), fix(n, n), fix(huge, n), fix(huge, 1)),
			laid(n, fix(0, n)), laid(huge, fix(0, n)), laid(0, fix(0, n)), {}, laid(12, off(0)),
		}
		if len(got) != len(s.Types) || !same(got[y+2:], want) {
			t.Errorf("P13.2: over a type of Huge - %d bytes: %+v, want %+v", below, got[min(y+2, len(got)):], want)
		}
	}
}

// P13.2: products about Huge: each number of items over a type of as many bytes as it goes into Huge, and about that.
func TestOfProductsAtHuge(t *testing.T) {
	for _, n := range []int{1, 2, 3, 5, 7, 255, 1000, 65536, 1<<20 - 1, 1 << 20} {
		for more := -3; more <= 3; more++ {
			bytes := huge/n + more
			if bytes > huge {
				continue
			}
			var s api.Schema
			x := sized(&s, bytes)
			s.Types = append(s.Types, vector(n, x), list(n, x))
			ofAll(t, s)
			// About Huge, a product is held by 64 bits without a sign.
			size := int(min(uint64(n)*uint64(bytes), huge))
			got, _ := layout.Of(s)
			if want := []api.Layout{laid(size, fix(0, bytes)), laid(0, fix(0, bytes))}; len(got) != x+3 || !same(got[x+1:], want) {
				t.Errorf("P13.2: %d of %d bytes: %+v, want %+v", n, bytes, got[min(x+1, len(got)):], want)
			}
		}
	}
}

// P13.2: Huge is reached by sums and products over and over, and never passed.
func TestOfBeyondHuge(t *testing.T) {
	s := schema(uN(8))
	for i := range 10 {
		s.Types = append(s.Types, vector(1<<20, i))
	}
	s.Types = append(s.Types, structure(slices.Repeat([]int{10}, 64)...), number(), structure(10, 12, 10, 12), structure(12, 11), list(1<<20, 11))
	ofAll(t, s)
	got, _ := layout.Of(s)
	if len(got) != 16 {
		t.Fatalf("P13.2: %+v", got)
	}
	row := laid(huge, fix(0, huge))
	for range 63 {
		row.Slots = append(row.Slots, fix(huge, huge))
	}
	want := []api.Layout{row, {}, laid(huge, fix(0, huge), off(huge), fix(huge, huge), off(huge)), laid(huge, off(0), fix(4, huge)), laid(0, fix(0, huge))}
	if !same(got[3:5], []api.Layout{laid(huge, fix(0, 8<<40)), laid(huge, fix(0, huge))}) || !same(got[11:], want) {
		t.Errorf("P13.2: %+v, want %+v", got, want)
	}
}

// P13.2: schemas that look like chance.
func TestOfChance(t *testing.T) {
	d := dice(10)
	for n := range 400 {
		ofAll(t, chance(&d, n, []int{3, 300, 1 << 20}[n%3]))
	}
	ofAll(t, chance(&d, 20000, 1<<20))
}
