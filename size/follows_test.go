package size_test

import (
	"math"
	"slices"
	"testing"
	"unsafe"

	"mortise/api"
	"mortise/size"
)

// P10.4: a value's length lies between Least and Most of its type, each node's of its own; of a fixed type it is both.
func TestBetween(t *testing.T) {
	d := dice(31)
	asked := 0
	for n := range 400 {
		s := chance(&d, 1+n%50, 1+n%7)
		extents, _ := size.Of(s)
		for range 6 {
			i := d.below(len(s.Types))
			v := some(&d, s, i, 500)
			if v == nil {
				continue
			}
			asked++
			got, e := size.Lengths(s, i, v)
			if e != api.OK || len(got) != len(v) {
				t.Fatalf("P10.3: Lengths(%s, %d, %s) = %s, %d", brief(s), i, brief(v), brief(got), e)
			}
			for at, of := range typesOf(s, i, v) {
				if x := extents[of]; got[at] < x.Least || got[at] > x.Most || x.Fixed && x.Least != x.Most {
					t.Errorf("P10.4: node %d of %s, of type %d of %s, has the length %d, its type %+v", at, brief(v), of, brief(s), got[at], x)
				}
			}
		}
	}
	if asked < 1000 {
		t.Errorf("only %d values were asked for", asked)
	}
}

// P10.4: both are reached, wherever a value of so few nodes has them that it can be written.
func TestBothAreReached(t *testing.T) {
	d := dice(32)
	asked := 0
	schemas := []api.Schema{schema(leaves()...)}
	for n := range 400 {
		schemas = append(schemas, chance(&d, 1+n%40, 1+n%7))
	}
	for _, s := range schemas {
		extents, _ := size.Of(s)
		for i, x := range extents {
			for _, greatest := range []bool{false, true} {
				v := edge(s, extents, i, 3000, greatest)
				if v == nil {
					continue
				}
				asked++
				want := x.Least
				if greatest {
					want = x.Most
				}
				if n, e := size.Length(s, i, v); n != want || e != api.OK {
					t.Errorf("P10.4: type %d of %s is %+v; %s has the length %d, %d", i, brief(s), x, brief(v), n, e)
				}
			}
		}
	}
	if asked < 5000 {
		t.Errorf("only %d values were asked for", asked)
	}
}

// P10.4: both are reached by great values too, up to the greatest number of items.
func TestBothAreReachedGreat(t *testing.T) {
	s := schema(uN(8), number(), option(1), list(1<<20, 0), vector(1<<20, 0), list(1<<20, 1), vector(1<<20, 1), vector(1<<16, 2), list(1<<16, 2), structure(7, 8, 0), union(9, 0), list(2, 10))
	extents, _ := size.Of(s)
	for i, x := range extents {
		for _, greatest := range []bool{false, true} {
			v := edge(s, extents, i, 1<<21, greatest)
			want := x.Least
			if greatest {
				want = x.Most
			}
			if n, e := size.Length(s, i, v); v == nil || n != want || e != api.OK {
				t.Errorf("P10.4: type %d is %+v; a value of %d nodes has the length %d, %d", i, x, len(v), n, e)
			}
		}
	}
}

// P10.4: the length is that of the encoding, and of a fixed type the same for all values.
func TestFixedIsOneSize(t *testing.T) {
	s := schema(uN(1), uN(2), uN(4), uN(8), boolean(), vector(3, 1), structure(0, 5, 3), vector(2, 6), structure(7, 4))
	sizes := []int{1, 2, 4, 8, 1, 6, 15, 30, 31}
	d := dice(33)
	for i, want := range sizes {
		for range 100 {
			v := some(&d, s, i, 1000)
			lengthsAll(t, s, i, v)
			if n, e := size.Length(s, i, v); n != want || e != api.OK {
				t.Errorf("P10.4: %s of type %d: %d, %d, want %d", brief(v), i, n, e, want)
			}
		}
	}
}

// P10.1: every call ends, and none panics, at schemas of which one field, the order or the number of types is another.
func TestAllSchemas(t *testing.T) {
	s := api.Schema{Types: append(leaves(), vector(1<<20, 11), list(1<<20, 9), option(13), union(14, 3), structure(15, 6)), Roots: []api.Root{{Name: "a", Type: 16}, {Name: "f0"}}}
	d := dice(41)
	values := [][]api.Node{nil, {{}}, {{Kind: api.NodeUint, N: 7}}, {{Kind: api.NodeSeq, Kids: math.MaxInt}}}
	for i := range s.Types {
		if v := some(&d, s, i, 60); v != nil {
			values = append(values, v)
		}
	}
	turn := 0
	look := func() {
		ofAll(t, s)
		for range 3 {
			turn++
			lengthsAll(t, s, turn%(len(s.Types)+2)-1, values[turn%len(values)])
		}
	}
	changes(s, look)
	for _, l := range rearranged(s.Types, api.Type{}, boolean(), option(0), list(3, 5), option(len(s.Types)), option(len(s.Types)-1)) {
		turned(&s.Types, [][]api.Type{l}, look)
	}
	for _, l := range rearranged(s.Roots, api.Root{}, api.Root{Name: "b"}, api.Root{Name: "c", Type: -1}) {
		turned(&s.Roots, [][]api.Root{l}, look)
	}
}

// P10.1: all numbers, with right and wrong nodes.
func TestAllNumbers(t *testing.T) {
	d := dice(42)
	for n := range 12 {
		s := chance(&d, n, 3)
		for _, i := range append(strangeNumbers(), n-1, n, n+1) {
			for _, v := range [][]api.Node{nil, {}, {{Kind: api.NodeUint}}, {{Kind: api.NodeBool}}, {{Kind: api.NodeSeq}}, {{Kind: -1, N: 1 << 63, Kids: math.MinInt}}} {
				lengthsAll(t, s, i, v)
			}
		}
	}
}

// P10.1: nodes that ask for many kids, or lie in one another deeper than any type, end the call at once.
func TestAllNodes(t *testing.T) {
	s := schema(tower(64)...)
	s.Types = append(s.Types, list(1<<20, 0), list(1<<20, 64), list(1<<20, 65), vector(1<<20, 66))
	for _, n := range []api.Node{{Kind: api.NodeOption, Kids: 1}, {Kind: api.NodeSeq, Kids: 1 << 20}, {Kind: api.NodeSeq, Kids: 1}, {Kind: api.NodeUnion, Kids: 1}, {Kind: api.NodeStruct, Kids: 64}, {Kind: api.NodeSeq, Kids: math.MaxInt}} {
		v := slices.Repeat([]api.Node{n}, 100000)
		for i := range s.Types {
			lengthsAre(t, s, i, v, nil, api.ErrNode)
		}
	}
	// As deep as may be, and one deeper.
	v := append(slices.Repeat([]api.Node{{Kind: api.NodeOption, Kids: 1}}, 63), api.Node{Kind: api.NodeBool})
	var want []int
	for i := range 64 {
		want = append(want, 64-i)
	}
	lengthsAre(t, s, 63, v, want, api.OK)
	lengthsAre(t, s, 62, v, nil, api.ErrNode)
	lengthsAre(t, s, 63, append([]api.Node{{Kind: api.NodeOption, Kids: 1}}, v...), nil, api.ErrNode)
}

// roomy: a copy with spare room in all its lists, and something in it that would be a fault.
func roomy(s api.Schema) api.Schema {
	out := api.Schema{Types: slices.Clip(slices.Clone(s.Types)), Roots: slices.Clip(slices.Clone(s.Roots))}
	out.Types = append(out.Types, api.Type{}, option(-1), uN(7))[:len(s.Types)]
	out.Roots = append(out.Roots, api.Root{Type: -1}, api.Root{Name: "a"})[:len(s.Roots)]
	for i := range out.Types {
		l := slices.Clip(slices.Clone(s.Types[i].Parts))
		out.Types[i].Parts = append(l, api.Part{Label: "?", Tag: -1, Type: -1}, api.Part{})[:len(l)]
	}
	return out
}

// all: all that the lists hold, spare room too.
func all(s api.Schema, v []api.Node) (out []any) {
	for _, x := range s.Types[:cap(s.Types)] {
		out = append(out, x.Kind, x.N, x.Elem, len(x.Parts))
		for _, p := range x.Parts[:cap(x.Parts)] {
			out = append(out, p)
		}
	}
	for _, r := range s.Roots[:cap(s.Roots)] {
		out = append(out, r)
	}
	for _, n := range v[:cap(v)] {
		out = append(out, n)
	}
	return out
}

// P10.1: what is handed in is not changed, spare room too, and spare room is not looked at.
func TestChangesNothing(t *testing.T) {
	d := dice(43)
	for n := range 200 {
		s := chance(&d, 1+n%20, 3)
		if n%20 == 0 {
			s = refused()[n/20].s
		}
		i := len(s.Types) - 1
		v := []api.Node{{Kind: api.NodeUint, N: 1 << 20}}
		if n%20 != 0 {
			v = append(v[:0], some(&d, s, i, 100)...)
		}
		a, b := roomy(s), append(slices.Clip(slices.Clone(v)), api.Node{Kind: 9, Kids: -1}, api.Node{Kind: api.NodeBool})[:len(v)]
		held := all(a, b)
		ofAll(t, a)
		lengthsAre(t, a, i, b, wantOf(s, i, v), errorOf(s, i, v))
		lengthsAll(t, a, -1, b)
		lengthsAll(t, a, 0, b)
		if !slices.Equal(held, all(a, b)) {
			t.Errorf("P10.1: %s, %s: what is handed in is changed", brief(s), brief(v))
		}
	}
}

// P10.1: what is answered is new memory, spare room too: it may be written over, and no other answer shows it.
func TestNewMemory(t *testing.T) {
	d := dice(44)
	for n := range 100 {
		s := chance(&d, 1+n%20, 3)
		i := len(s.Types) - 1
		v := some(&d, s, i, 200)
		want := extentsOf(s)
		first, _ := size.Of(s)
		second, _ := size.Of(s)
		for k := range first[:cap(first)] {
			first[:cap(first)][k] = api.Extent{Least: -7, Most: -7, Depth: -7}
		}
		if !slices.Equal(second, want) {
			t.Errorf("P10.1: %s: two answers of Of share memory", brief(s))
		}
		ofIs(t, s, want, api.OK)
		lengths, e := answers(s, i, v)
		one, _ := size.Lengths(s, i, v)
		two, _ := size.Lengths(s, i, v)
		for k := range one[:cap(one)] {
			one[:cap(one)][k] = -7
		}
		if !slices.Equal(two, lengths) {
			t.Errorf("P10.1: %s: two answers of Lengths share memory", brief(v))
		}
		lengthsAre(t, s, i, v, lengths, e)
	}
}

// P10.1: nothing is kept: each call looks at what it is handed now, and an answer stays as it was.
func TestLooksAgain(t *testing.T) {
	bytes := []byte("f0")
	s := schema(uN(1), number(), list(3, 1), structure(0, 2))
	s.Types[3].Parts[1].Label = unsafe.String(&bytes[0], 2)
	bytes[1] = '1'
	v := nodes(t, "{7, [5, 300]}")
	extents, _ := size.Of(s)
	lengths, _ := size.Lengths(s, 3, v)
	ofIs(t, s, []api.Extent{fixed(1, 1), variable(1, 10, 1), variable(0, 42, 2), variable(5, 47, 3)}, api.OK)
	lengthsAre(t, s, 3, v, []int{16, 1, 11, 1, 2}, api.OK)
	bytes[1] = '0'
	ofIs(t, s, nil, api.ErrSchema)
	lengthsAre(t, s, 3, v, nil, api.ErrSchema)
	bytes[1] = '2'
	s.Types[0].N = 8
	s.Types[1] = uN(2)
	ofIs(t, s, []api.Extent{fixed(8, 1), fixed(2, 1), variable(0, 6, 2), variable(12, 18, 3)}, api.OK)
	lengthsAre(t, s, 3, v, []int{16, 8, 4, 2, 2}, api.OK)
	s.Types[2] = vector(2, 1)
	lengthsAre(t, s, 3, v, []int{12, 8, 4, 2, 2}, api.OK)
	v[3].N = 65536
	lengthsAre(t, s, 3, v, nil, api.ErrNode)
	s.Types[1] = number()
	lengthsAre(t, s, 3, v, []int{25, 8, 13, 3, 2}, api.OK)
	if extents[3] != variable(5, 47, 3) || !slices.Equal(lengths, []int{16, 1, 11, 1, 2}) {
		t.Errorf("P10.1: answers are changed by later calls: %v, %v", extents, lengths)
	}
}

// P10.1: with an error the other answer is nothing, whatever was answered ahead.
func TestZeroBesideError(t *testing.T) {
	right := schema(boolean(), option(0))
	v := []api.Node{{Kind: api.NodeOption, Kids: 1}, {Kind: api.NodeBool, N: 1}}
	for _, c := range refused() {
		size.Of(right)
		lengthsAre(t, right, 1, v, []int{2, 1}, api.OK)
		ofIs(t, c.s, nil, c.e)
		lengthsAre(t, c.s, 1, v, nil, c.e)
		lengthsAre(t, right, 2, v, nil, api.ErrPlace)
		lengthsAre(t, right, 0, v, nil, api.ErrNode)
		lengthsAre(t, right, 1, v[:1], nil, api.ErrNode)
	}
}
