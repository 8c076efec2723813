package plain_test

import (
	"bytes"
	"math"
	"slices"
	"testing"
	"unsafe"

	"mortise/api"
	"mortise/plain"
)

// P12.1: every call ends, and none panics, at schemas of which one field, the order or the number of types is another.
func TestAllSchemas(t *testing.T) {
	s := api.Schema{Types: append(kinds(), vector(1<<20, 14), list(1<<20, 9), option(16), union(17, 3), structure(18, 6)), Roots: []api.Root{{Name: "a", Type: 19}, {Name: "f0"}}}
	d := dice(41)
	values := [][]api.Node{nil, {{}}, {uintNode(7)}, {seqNode(math.MaxInt)}}
	inputs := [][]byte{nil, {2}, {1, 1, 1, 1, 1, 1, 1, 1, 1}, bytes.Repeat([]byte{0xff}, 12), {200, 200, 5}}
	for i := range s.Types {
		if v := valueOf(&d, s, i, 60); v != nil {
			values = append(values, v)
			b, _ := plain.Encode(s, i, v)
			inputs = append(inputs, b)
		}
	}
	turn := 0
	look := func() {
		for range 3 {
			turn++
			i := turn%(len(s.Types)+2) - 1
			encodesAll(t, s, i, values[turn%len(values)])
			decodesAll(t, s, i, inputs[turn%len(inputs)])
			decodesAll(t, s, i, d.bytes(turn%16))
		}
	}
	changes(s, look)
	for _, l := range rearranged(s.Types, api.Type{}, boolean(), option(0), list(3, 5), option(len(s.Types)), option(len(s.Types)-1)) {
		turned(&s.Types, [][]api.Type{l}, look)
	}
	for _, l := range rearranged(s.Roots, api.Root{}, api.Root{Name: "b"}, api.Root{Name: "c", Type: -1}) {
		turned(&s.Roots, [][]api.Root{l}, look)
	}
}

// P12.1: all numbers, with right and wrong nodes and bytes.
func TestAllNumbers(t *testing.T) {
	d := dice(42)
	for n := range 12 {
		s := chance(&d, n, 3)
		for _, i := range append(strangeNumbers(), n-1, n, n+1) {
			for _, v := range [][]api.Node{nil, {}, {uintNode(0)}, {boolNode(0)}, {seqNode(0)}, {{Kind: -1, N: 1 << 63, Kids: math.MinInt}}} {
				encodesAll(t, s, i, v)
			}
			for _, b := range [][]byte{nil, {}, {0}, {1}, {0xff}, bytes.Repeat([]byte{0xff}, 9), d.bytes(9)} {
				decodesAll(t, s, i, b)
			}
		}
	}
}

// P12.1: all nodes: each kind with each number, alone and behind others.
func TestAllNodes(t *testing.T) {
	s := schema(kinds()...)
	heads := [][]api.Node{nil, {optionNode(1)}, {seqNode(1)}, {structNode(1)}, {unionNode(200)}, {structNode(2), uintNode(7)}, {uintNode(1)}}
	for _, n := range strangeNodes() {
		for _, head := range heads {
			v := append(slices.Clone(head), n)
			for i := range s.Types {
				encodesAll(t, s, i, v)
			}
		}
	}
}

// P12.1: nodes that ask for many kids, or lie in one another deeper than any type; bytes that say little and ask for much.
func TestAllEnd(t *testing.T) {
	s := schema(tower(64)...)
	s.Types = append(s.Types, list(1<<20, 0), list(1<<20, 64), list(1<<20, 65), vector(1<<20, 66), vector(1<<20, 67), vector(1<<20, 68), structure(69, 69, 0), list(1<<20, 70))
	for _, n := range []api.Node{optionNode(1), seqNode(1 << 20), seqNode(1), unionNode(0), structNode(64), seqNode(math.MaxInt)} {
		v := slices.Repeat([]api.Node{n}, 10000)
		at := len(v)
		if n.Kids == math.MaxInt {
			at = 0
		}
		for i := range s.Types {
			encodes(t, s, i, v, nil, fault(api.ErrNode, at))
		}
	}
	deep := append(slices.Repeat([]api.Node{optionNode(1)}, 10000), boolNode(1))
	for i := range 64 {
		encodes(t, s, i, deep, nil, fault(api.ErrKind, i))
	}
	for _, b := range [][]byte{bytes.Repeat([]byte{1}, 10000), bytes.Repeat([]byte{0}, 10000), bytes.Repeat([]byte{0xff}, 10000), bytes.Repeat([]byte{0xfc, 0xff, 0xff, 0xff}, 2500), bytes.Repeat([]byte{0, 0, 0x40, 0}, 2500), bytes.Repeat([]byte{4, 0, 0, 0}, 2500)} {
		for i := range s.Types {
			decodesAll(t, s, i, b)
		}
	}
}

// roomy: a copy with spare room in all its lists, and something in it that would be a fault.
func roomy(s api.Schema) api.Schema {
	out := api.Schema{Types: slices.Clip(slices.Clone(s.Types)), Roots: slices.Clip(slices.Clone(s.Roots))}
	out.Types = append(out.Types, api.Type{}, option(-1), uN(7))[:len(s.Types)]
	out.Roots = append(out.Roots, api.Root{Type: -1}, api.Root{Name: "a"})[:len(s.Roots)]
	for i := range out.Types {
		l := slices.Clip(slices.Clone(s.Types[i].Parts))
		out.Types[i].Parts = append(l, api.Part{Label: "?", Tag: -1, Type: -1}, api.Part{})[:len(l)]
	}
	return out
}

// roomyBytes: a copy with spare room, and bytes in it that would be read on.
func roomyBytes(b []byte) []byte { return append(slices.Clip(slices.Clone(b)), 1, 0, 0xff)[:len(b)] }

// roomyNodes: a copy with spare room, and nodes in it that would be gone on with.
func roomyNodes(v []api.Node) []api.Node {
	return append(slices.Clip(slices.Clone(v)), boolNode(0), api.Node{Kind: 9, Kids: -1})[:len(v)]
}

// held: all that the lists hold, spare room too.
func held(s api.Schema, v []api.Node, b []byte) (out []any) {
	for _, x := range s.Types[:cap(s.Types)] {
		out = append(out, x.Kind, x.N, x.Elem, len(x.Parts))
		for _, p := range x.Parts[:cap(x.Parts)] {
			out = append(out, p)
		}
	}
	for _, r := range s.Roots[:cap(s.Roots)] {
		out = append(out, r)
	}
	for _, n := range v[:cap(v)] {
		out = append(out, n)
	}
	return append(out, string(b[:cap(b)]))
}

// P12.1: what is handed in is not changed, spare room too, and spare room is not looked at.
func TestChangesNothing(t *testing.T) {
	d := dice(43)
	for n := range 600 {
		s := chance(&d, 1+n%20, 3)
		if n%30 == 0 {
			s = refused()[n/30]
		}
		i := len(s.Types) - 1
		v, b := anyValue(&d, 4), d.bytes(d.below(20))
		if n%30 > 0 && n%3 > 0 {
			v = append(v[:0], valueOf(&d, s, i, 100)...)
			right, _ := plain.Encode(s, i, v)
			b = right[:len(right)-d.below(2)*min(1, len(right))]
		}
		x, nodes, input := roomy(s), roomyNodes(v), roomyBytes(b)
		before := held(x, nodes, input)
		wantBytes, f := encoded(s, i, v)
		encodes(t, x, i, nodes, wantBytes, f)
		want, f := decoded(s, i, b, true)
		_, front := decoded(s, i, b, false)
		decodes(t, x, i, input, want, f, front)
		encodesAll(t, x, -1, nodes)
		decodesAll(t, x, -1, input)
		if !slices.Equal(before, held(x, nodes, input)) {
			t.Errorf("P12.1: %s, %s, %s: what is handed in is changed", brief(s), brief(v), brief(b))
		}
	}
}

// overwrite writes over a list, spare room too.
func overwrite[T any](l []T, x T) {
	l = l[:cap(l)]
	for k := range l {
		l[k] = x
	}
}

// P12.1: what is answered is new memory, spare room too: it may be written over, and no other answer shows it, nor what was handed in.
func TestNewMemory(t *testing.T) {
	d := dice(44)
	asked := 0
	for n := range 600 {
		s := chance(&d, 1+n%20, 3)
		i := len(s.Types) - 1
		v := valueOf(&d, s, i, 200)
		if v == nil {
			continue
		}
		asked++
		b, _ := encoded(s, i, v)
		before := held(s, v, b)
		first, _ := plain.Encode(s, i, v)
		second, _ := plain.Encode(s, i, v)
		overwrite(first, 0xee)
		one, _ := plain.Decode(s, i, b)
		two, _ := plain.Decode(s, i, b)
		overwrite(one, api.Node{Kind: -7, Kids: -7})
		if !bytes.Equal(second, b) || !slices.Equal(two, v) {
			t.Errorf("P12.1: %s, %s: two answers share memory", brief(s), brief(v))
		}
		if !slices.Equal(before, held(s, v, b)) {
			t.Errorf("P12.1: %s, %s: an answer shares memory with what was handed in", brief(s), brief(v))
		}
		bothWays(t, s, i, v)
	}
	if asked < 300 {
		t.Errorf("only %d values were asked for", asked)
	}
}

// P12.1: nothing is kept: each call looks at what it is handed now, and an answer stays as it was.
func TestLooksAgain(t *testing.T) {
	name := []byte("f1")
	s := schema(uN(1), number(), list(3, 1), structure(0, 2))
	s.Types[3].Parts[1].Label = unsafe.String(&name[0], 2)
	v := nodes(t, "{7, [5, 300]}")
	b := hex(t, "07 05 00 00 00 08 00 00 00 09 00 00 00 05 ac 02")
	made, _ := plain.Encode(s, 3, v)
	read, _ := plain.Decode(s, 3, b)
	encodes(t, s, 3, v, b, api.Fault{})
	decodes(t, s, 3, b, v, api.Fault{}, api.Fault{})
	name[1] = '0'
	encodes(t, s, 3, v, nil, fault(api.ErrSchema, 0))
	decodes(t, s, 3, b, nil, fault(api.ErrSchema, 0), fault(api.ErrSchema, 0))
	name[1] = '2'
	s.Types[1] = uN(2)
	encodes(t, s, 3, v, hex(t, "07 05 00 00 00 05 00 2c 01"), api.Fault{})
	decodes(t, s, 3, b, nil, fault(api.ErrCount, 11), fault(api.ErrCount, 11))
	s.Types[2].N = 1
	encodes(t, s, 3, v, nil, fault(api.ErrItems, 2))
	decodes(t, s, 3, b, nil, fault(api.ErrCount, 7), fault(api.ErrCount, 7))
	s.Types[1], s.Types[2].N = number(), 3
	v[3].N = 6
	b[13] = 6
	encodes(t, s, 3, v, b, api.Fault{})
	decodes(t, s, 3, b, v, api.Fault{}, api.Fault{})
	if !slices.Equal(read, nodes(t, "{7, [5, 300]}")) || !bytes.Equal(made, hex(t, "07 05 00 00 00 08 00 00 00 09 00 00 00 05 ac 02")) {
		t.Errorf("P12.1: answers are changed by later calls: %v, % x", read, made)
	}
}

// P12.1: with an error the other answer is its zero value, whatever was answered ahead.
func TestZeroBesideError(t *testing.T) {
	s := schema(boolean(), list(3, 0), structure(0, 1, 1))
	v := nodes(t, "{true, [true], [false]}")
	b := hex(t, "01 09 00 00 00 0a 00 00 00 01 00")
	for at := range b {
		bothWays(t, s, 2, v)
		decodesAll(t, s, 2, b[:at])
		for _, other := range spoilt(b, at) {
			decodesAll(t, s, 2, other)
		}
	}
	for at := range v {
		encodes(t, s, 2, v[:at], nil, fault(api.ErrNode, at))
		bothWays(t, s, 2, v)
	}
}

// P12.2, P12.3: roots and the names of fields say nothing of values and bytes.
func TestRootsSayNothing(t *testing.T) {
	s := schema(uN(1), boolean(), structure(0, 1))
	v, b := nodes(t, "{7, true}"), []byte{7, 1}
	for _, roots := range [][]api.Root{nil, {{Name: "z"}}, {{Name: "z"}, {Name: "y"}, {Name: "x", Type: 2}}} {
		s.Roots = roots
		encodes(t, s, 2, v, b, api.Fault{})
		decodes(t, s, 2, b, v, api.Fault{}, api.Fault{})
		s.Types[2].Parts[0].Label = "q"
	}
}
