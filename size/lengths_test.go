package size_test

import (
	"math"
	"slices"
	"testing"

	"mortise/api"
	"mortise/size"
	"mortise/value"
)

// P10.3: the chapter's worked examples.
func TestLengthsExamples(t *testing.T) {
	s, last := built(t, "type a = struct { a: u8, b: list<varint, 9>, c: option<u16> };")
	for _, c := range []struct {
		text string
		want []int
	}{
		{"{7, [5, 300], none}", []int{21, 1, 11, 1, 2, 1}},
		{"{7, [], some 9}", []int{12, 1, 0, 3, 2}},
		{"{256, [], none}", nil}, {"{7, []}", nil}, {"7", nil},
	} {
		e := api.OK
		if c.want == nil {
			e = api.ErrNode
		}
		lengthsAre(t, s, last, nodes(t, c.text), c.want, e)
		lengthsAll(t, s, last, nodes(t, c.text))
	}
}

// P10.3: values of each kind, written out; those of DOC.md's examples too.
func TestLengthsWritten(t *testing.T) {
	for _, c := range []struct {
		of, text string
		want     []int
	}{
		{"u8", "255", []int{1}}, {"u16", "0", []int{2}}, {"u32", "4294967295", []int{4}}, {"u64", "18446744073709551615", []int{8}}, {"bool", "true", []int{1}}, {"bool", "false", []int{1}}, {"varint", "0", []int{1}},
		{"vector<u16,3>", "[1, 2, 3]", []int{6, 2, 2, 2}}, {"vector<varint,2>", "[1, 128]", []int{11, 1, 2}}, {"vector<list<u8,9>,2>", "[[], [1, 2]]", []int{10, 0, 2, 1, 1}},
		{"vector<vector<bool,2>,2>", "[[true, true], [false, true]]", []int{4, 2, 1, 1, 2, 1, 1}},
		{"list<u8,9>", "[]", []int{0}}, {"list<u64,9>", "[1, 2]", []int{16, 8, 8}}, {"list<u8,2>", "[1, 2]", []int{2, 1, 1}}, {"list<varint,9>", "[]", []int{0}}, {"list<varint,2>", "[16384, 0]", []int{12, 3, 1}}, {"list<list<u16,9>,3>", "[[1], [2]]", []int{12, 2, 2, 2, 2}}, {"list<list<u8,9>,9>", "[[]]", []int{4, 0}},
		{"option<u32>", "none", []int{1}}, {"option<u32>", "some 1", []int{5, 4}}, {"option<varint>", "some 300", []int{3, 2}}, {"option<list<u8,3>>", "some []", []int{1, 0}}, {"option<option<bool>>", "some none", []int{2, 1}}, {"option<option<bool>>", "some some true", []int{3, 2, 1}},
		{"union{3:u16,200:option<varint>}", "<3:770>", []int{3, 2}}, {"union{3:u16,200:option<varint>}", "<200:some 300>", []int{4, 3, 2}}, {"union{3:u16,200:option<varint>}", "<200:none>", []int{2, 1}}, {"union{0:u8,255:list<u64,3>}", "<255:[]>", []int{1, 0}},
		{"struct{id:u32,name:list<u8,20>,ok:bool}", "{7, [104, 105], true}", []int{11, 4, 2, 1, 1, 1}}, {"struct{x:u8}", "{1}", []int{1, 1}}, {"struct{x:varint}", "{1}", []int{5, 1}}, {"struct{x:struct{y:u16,z:bool},w:u64}", "{{1, true}, 2}", []int{11, 3, 2, 1, 8}},
		{"struct{x:struct{y:varint,z:bool},w:u64}", "{{1, true}, 2}", []int{18, 6, 1, 1, 8}}, {"struct{x:union{1:u8},y:option<u8>}", "{<1:5>, none}", []int{11, 2, 1, 1}},
		// The same value of unlike types.
		{"list<vector<u8,2>,3>", "[[1, 2]]", []int{2, 2, 1, 1}}, {"list<list<u8,2>,3>", "[[1, 2]]", []int{6, 2, 1, 1}}, {"vector<list<varint,2>,1>", "[[1, 2]]", []int{14, 10, 1, 1}}, {"vector<vector<u64,2>,1>", "[[1, 2]]", []int{16, 16, 8, 8}},
	} {
		s, last := built(t, "type a="+c.of+";")
		v := nodes(t, c.text)
		lengthsAre(t, s, last, v, c.want, api.OK)
		lengthsAll(t, s, last, v)
		spoilt(t, s, last, v)
	}
}

// moreOrFewer: whole values that come of one: each node with a kid more, one of its own or another, or with its last kid left out.
func moreOrFewer(v []api.Node) [][]api.Node {
	var out [][]api.Node
	for at, n := range v {
		end, _ := value.Next(v, at)
		more := [][]api.Node{{{Kind: api.NodeUint, N: 1}}, {{Kind: api.NodeBool}}, {{Kind: api.NodeSeq}}, {{Kind: api.NodeOption}}}
		for k := range n.Kids {
			from, _ := value.Kid(v, at, k)
			to, _ := value.Next(v, from)
			more = append(more, v[from:to])
			if k == n.Kids-1 {
				l := slices.Concat(v[:from], v[to:])
				l[at].Kids--
				out = append(out, l)
			}
		}
		for _, kid := range more {
			l := slices.Concat(v[:end], kid, v[end:])
			l[at].Kids++
			out = append(out, l)
		}
	}
	return out
}

// spoilt holds values against the model that come of a right one: each node's fields set otherwise, nodes left out, doubled, swapped, cut off and laid beside, kids more and fewer.
func spoilt(t *testing.T, s api.Schema, i int, v []api.Node) {
	t.Helper()
	v = slices.Clone(v)
	look := func() { lengthsAll(t, s, i, v) }
	for at := range v {
		n := &v[at]
		turned(&n.Kind, []int{math.MinInt, -1, 0, 1, 2, 3, 4, 5, 6, 7, 1<<32 + n.Kind, math.MaxInt}, look)
		turned(&n.Kids, append(strangeNumbers(), n.Kids-1, n.Kids+1), look)
		turned(&n.N, []uint64{0, 1, 2, 3, 127, 128, 200, 255, 256, 1<<16 - 1, 1 << 16, 1<<32 - 1, 1 << 32, 1 << 63, 1<<64 - 1, n.N + 256, n.N + 1<<32, n.N + 1<<63, n.N + 1}, look)
	}
	for _, l := range rearranged(v, api.Node{}, api.Node{Kind: api.NodeUint}, api.Node{Kind: api.NodeBool, N: 1}, api.Node{Kind: api.NodeSeq}, api.Node{Kind: api.NodeOption, Kids: 1}) {
		lengthsAll(t, s, i, l)
	}
	for _, l := range moreOrFewer(v) {
		lengthsAll(t, s, i, l)
	}
	for at := range v {
		lengthsAll(t, s, i, v[at:])
		lengthsAll(t, s, i, append(slices.Clone(v), v[at:]...))
	}
}

// P10.3: of a uN: what fits it, and what does not.
func TestLengthsUints(t *testing.T) {
	for _, bytes := range []int{1, 2, 4, 8} {
		s := schema(boolean(), uN(bytes))
		top := uint64(1)<<(8*bytes) - 1
		for _, n := range []uint64{0, 1, 127, 128, 254, 255, 256, 257, 1<<16 - 1, 1 << 16, 1<<24 - 1, 1<<32 - 1, 1 << 32, 1<<63 - 1, 1 << 63, top - 1, top, top + 1, 1<<64 - 1} {
			v := []api.Node{{Kind: api.NodeUint, N: n}}
			if n <= top {
				lengthsAre(t, s, 1, v, []int{bytes}, api.OK)
			} else {
				lengthsAre(t, s, 1, v, nil, api.ErrNode)
			}
		}
	}
}

// P10.3: varints of one to ten bytes, at each edge, by themselves, in options, unions, lists and structs.
func TestLengthsVarints(t *testing.T) {
	s := schema(number(), option(0), union(0), list(3, 0), structure(0), vector(1, 0))
	for bytes := 1; bytes <= 10; bytes++ {
		least, most := uint64(1)<<(7*(bytes-1)), uint64(1)<<(7*bytes)-1
		if bytes == 1 {
			least = 0
		}
		if bytes == 10 {
			most = 1<<64 - 1
		}
		for _, n := range []uint64{least, least + 1, least + (most-least)/2, most - 1, most} {
			u := api.Node{Kind: api.NodeUint, N: n}
			lengthsAre(t, s, 0, []api.Node{u}, []int{bytes}, api.OK)
			lengthsAre(t, s, 1, []api.Node{{Kind: api.NodeOption, Kids: 1}, u}, []int{1 + bytes, bytes}, api.OK)
			lengthsAre(t, s, 2, []api.Node{{Kind: api.NodeUnion, N: 200, Kids: 1}, u}, []int{1 + bytes, bytes}, api.OK)
			lengthsAre(t, s, 3, []api.Node{{Kind: api.NodeSeq, Kids: 3}, u, {Kind: api.NodeUint}, u}, []int{13 + 2*bytes, bytes, 1, bytes}, api.OK)
			lengthsAre(t, s, 4, []api.Node{{Kind: api.NodeStruct, Kids: 1}, u}, []int{4 + bytes, bytes}, api.OK)
			lengthsAre(t, s, 5, []api.Node{{Kind: api.NodeSeq, Kids: 1}, u}, []int{4 + bytes, bytes}, api.OK)
		}
	}
}

// P10.3: types.Check's error goes ahead of ErrPlace, and that ahead of ErrNode; alone, each is told too.
func TestLengthsOrder(t *testing.T) {
	right, wrong := []api.Node{{Kind: api.NodeBool, N: 1}}, []api.Node{{Kind: api.NodeBool, N: 2}}
	for _, c := range refused() {
		for _, i := range []int{0, -1, len(c.s.Types) - 1, len(c.s.Types), len(c.s.Types) + 1, math.MinInt, math.MaxInt} {
			for _, v := range [][]api.Node{right, wrong, nil, {}} {
				lengthsAre(t, c.s, i, v, nil, c.e)
			}
		}
	}
	for _, n := range []int{1, 2, 3, 64} {
		s := schema(tower(n)...)
		for _, i := range append(strangeNumbers(), n-1, n, n+1) {
			for _, v := range [][]api.Node{right, wrong, nil, {}} {
				switch {
				case i < 0 || i >= n:
					lengthsAre(t, s, i, v, nil, api.ErrPlace)
				case i == 0 && len(v) == 1 && v[0].N == 1:
					lengthsAre(t, s, i, v, []int{1}, api.OK)
				default:
					lengthsAre(t, s, i, v, nil, api.ErrNode)
				}
			}
		}
		v := append(slices.Repeat([]api.Node{{Kind: api.NodeOption, Kids: 1}}, n-1), right...)
		if e := lengthsAll(t, s, n-1, v); e != api.OK {
			t.Errorf("P10.3: the last type of %d: %d", n, e)
		}
		lengthsAre(t, s, n, v, nil, api.ErrPlace)
		lengthsAre(t, s, n-1, append(v, right...), nil, api.ErrNode)
		lengthsAre(t, s, n-1, v[:n-1], nil, api.ErrNode)
	}
}

// P10.3: a schema of no types has no type's number.
func TestLengthsNoTypes(t *testing.T) {
	for _, i := range strangeNumbers() {
		for _, v := range [][]api.Node{nil, {{Kind: api.NodeUint}}} {
			lengthsAre(t, api.Schema{}, i, v, nil, api.ErrPlace)
		}
	}
}

// P10.3: values that don't fit at the first and at later nodes, that break off and go on too long, written out.
func TestLengthsMisfits(t *testing.T) {
	s, last := built(t, "type a=struct{a:u8,b:list<varint,2>,c:union{3:bool,5:u16},d:vector<option<u32>,2>};")
	good := "{255, [1, 2], <5:65535>, [none, some 9]}"
	lengthsAre(t, s, last, nodes(t, good), []int{1 + 4 + 10 + 4 + 3 + 4 + 14, 1, 10, 1, 1, 3, 2, 14, 1, 5, 4}, api.OK)
	for _, text := range []string{
		"7", "true", "none", "[255, [1, 2], <5:65535>, [none, some 9]]", "{255, [1, 2], <5:65535>}", "{255}", "{255, [1, 2], <5:65535>, [none, some 9], 1}",
		"{256, [1, 2], <5:65535>, [none, some 9]}", "{true, [1, 2], <5:65535>, [none, some 9]}", "{255, [1, 2, 3], <5:65535>, [none, some 9]}", "{255, {1, 2}, <5:65535>, [none, some 9]}", "{255, [1, true], <5:65535>, [none, some 9]}", "{255, 1, <5:65535>, [none, some 9]}",
		"{255, [1, 2], <4:65535>, [none, some 9]}", "{255, [1, 2], <3:65535>, [none, some 9]}", "{255, [1, 2], <5:65536>, [none, some 9]}", "{255, [1, 2], <5:true>, [none, some 9]}", "{255, [1, 2], some 5, [none, some 9]}",
		"{255, [1, 2], <5:65535>, [none]}", "{255, [1, 2], <5:65535>, []}", "{255, [1, 2], <5:65535>, [none, none, none]}", "{255, [1, 2], <5:65535>, [none, some 4294967296]}", "{255, [1, 2], <5:65535>, [none, 9]}", "{255, [1, 2], <5:65535>, [none, some some 9]}", "{255, [1, 2], <5:65535>, [none, some none]}",
	} {
		lengthsAre(t, s, last, nodes(t, text), nil, api.ErrNode)
	}
	v := nodes(t, good)
	for at := range v {
		lengthsAre(t, s, last, v[:at], nil, api.ErrNode)
		for _, n := range v {
			lengthsAre(t, s, last, append(slices.Clone(v), n), nil, api.ErrNode)
		}
	}
	spoilt(t, s, last, v)
}

// P10.3: all lists of up to three nodes of some kinds, against types of all kinds.
func TestLengthsSmall(t *testing.T) {
	s := schema(append(leaves(), vector(1, 5), vector(2, 4), list(2, 5), option(4), union(4, 7, 8), structure(5), structure(4, 8), option(8), list(1, 7))...)
	alphabet := []api.Node{{}, {Kind: api.NodeUint, N: 1}, {Kind: api.NodeUint, N: 1 << 20}, {Kind: api.NodeUint, Kids: 1}, {Kind: api.NodeBool}, {Kind: api.NodeBool, N: 2}, {Kind: api.NodeBool, Kids: 1}, {Kind: api.NodeSeq}, {Kind: api.NodeSeq, Kids: 1}, {Kind: api.NodeSeq, Kids: 2}, {Kind: api.NodeSeq, N: 1, Kids: 1}, {Kind: api.NodeSeq, Kids: -1}, {Kind: api.NodeStruct, Kids: 1}, {Kind: api.NodeStruct, Kids: 2}, {Kind: api.NodeStruct}, {Kind: api.NodeOption}, {Kind: api.NodeOption, Kids: 1}, {Kind: api.NodeOption, N: 1}, {Kind: api.NodeOption, Kids: -1}, {Kind: api.NodeUnion, N: 200, Kids: 1}, {Kind: api.NodeUnion, N: 198, Kids: 1}, {Kind: api.NodeUnion, N: 200}, {Kind: api.NodeUnion, N: 1, Kids: 1}, {Kind: api.NodeUnion, N: 456, Kids: 1}}
	for i := range s.Types {
		lengthsAll(t, s, i, nil)
		for _, a := range alphabet {
			lengthsAll(t, s, i, []api.Node{a})
			for _, b := range alphabet {
				lengthsAll(t, s, i, []api.Node{a, b})
				if a.Kids != 2 && a.Kids != 1 {
					continue
				}
				for _, c := range alphabet {
					lengthsAll(t, s, i, []api.Node{a, b, c})
				}
			}
		}
	}
}

// P10.3: strange nodes, by themselves and behind each kind that has kids.
func TestLengthsStrange(t *testing.T) {
	s := schema(append(leaves(), list(1<<20, 9), option(5), structure(5, 9), union(11, 4, 8), vector(1<<20, 7))...)
	heads := [][]api.Node{nil, {{Kind: api.NodeSeq, Kids: 1}}, {{Kind: api.NodeOption, Kids: 1}}, {{Kind: api.NodeUnion, N: 199, Kids: 1}}, {{Kind: api.NodeStruct, Kids: 2}, {Kind: api.NodeUint, N: 5}}, {{Kind: api.NodeSeq, Kids: 1 << 20}}}
	for _, n := range strangeNodes() {
		for _, head := range heads {
			for i := range s.Types {
				v := append(slices.Clone(head), n)
				lengthsAre(t, s, i, v, wantOf(s, i, v), errorOf(s, i, v))
			}
		}
	}
}

// wantOf, errorOf: what the model answers.
func wantOf(s api.Schema, i int, v []api.Node) []int {
	want, _ := answers(s, i, v)
	return want
}

func errorOf(s api.Schema, i int, v []api.Node) api.Errno {
	_, e := answers(s, i, v)
	return e
}

// P10.3: each node's length is that of its own value, asked for by itself; the first one's is Length's.
func TestLengthsEachNode(t *testing.T) {
	d := dice(21)
	asked := 0
	for n := range 200 {
		s := chance(&d, 1+n%40, 4)
		v := some(&d, s, len(s.Types)-1, 300)
		if v == nil {
			continue
		}
		asked++
		lengthsAll(t, s, len(s.Types)-1, v)
		got, _ := size.Lengths(s, len(s.Types)-1, v)
		for at, of := range typesOf(s, len(s.Types)-1, v) {
			end, _ := value.Next(v, at)
			if n, e := size.Length(s, of, v[at:end]); at >= len(got) || n != got[at] || e != api.OK {
				t.Fatalf("P10.3: %s: node %d of %s: %d, %d, of the whole %s", brief(s), at, brief(v), n, e, brief(got))
			}
			own, _ := size.Lengths(s, of, v[at:end])
			if !slices.Equal(own, got[at:end]) {
				t.Fatalf("P10.3: %s: the value of node %d of %s: %s, of the whole %s", brief(s), at, brief(v), brief(own), brief(got))
			}
		}
	}
	if asked < 100 {
		t.Errorf("only %d values were asked for", asked)
	}
}

// typesOf: each node's type, by the words of chapter 11.
func typesOf(s api.Schema, i int, v []api.Node) []int {
	var out []int
	open := []int{i}
	for _, n := range v {
		of := open[len(open)-1]
		out = append(out, of)
		kids := kidTypes(s.Types[of], n)
		slices.Reverse(kids)
		open = append(open[:len(open)-1], kids...)
	}
	return out
}

// P10.3: values that look like chance, right ones and spoilt ones.
func TestLengthsChance(t *testing.T) {
	d := dice(22)
	for n := range 300 {
		s := chance(&d, 1+n%30, 3)
		for range 3 {
			i := d.below(len(s.Types))
			v := some(&d, s, i, 40)
			if v == nil {
				continue
			}
			if e := lengthsAll(t, s, i, v); e != api.OK {
				t.Fatalf("%s is not of type %d of %s: %d", brief(v), i, brief(s), e)
			}
			if len(v) < 9 {
				spoilt(t, s, i, v)
			}
			for other := range s.Types {
				lengthsAll(t, s, other, v)
			}
		}
	}
}

// P10.3: great values: as many items as may be, and one more or less.
func TestLengthsGreat(t *testing.T) {
	s := schema(uN(8), number(), list(1<<20, 0), vector(1<<20, 0), list(1<<20, 1), vector(1<<20, 1), boolean(), option(6), list(1<<20, 7))
	for _, c := range []struct {
		of   int
		each []api.Node
		want []int
		room int
	}{
		{2, []api.Node{{Kind: api.NodeUint, N: 1<<64 - 1}}, []int{8}, 8}, {3, []api.Node{{Kind: api.NodeUint, N: 1<<64 - 1}}, []int{8}, 8}, {4, []api.Node{{Kind: api.NodeUint, N: 1<<64 - 1}}, []int{10}, 14}, {5, []api.Node{{Kind: api.NodeUint, N: 127}}, []int{1}, 5},
		{8, []api.Node{{Kind: api.NodeOption, Kids: 1}, {Kind: api.NodeBool}}, []int{2, 1}, 6},
	} {
		v := append([]api.Node{{Kind: api.NodeSeq, Kids: 1 << 20}}, slices.Repeat(c.each, 1<<20)...)
		want := append([]int{c.room << 20}, slices.Repeat(c.want, 1<<20)...)
		lengthsAre(t, s, c.of, v, want, api.OK)
		lengthsAre(t, s, c.of, v[:len(v)-1], nil, api.ErrNode)
		lengthsAre(t, s, c.of, append(slices.Clone(v), v[len(v)-1]), nil, api.ErrNode)
		last := &v[len(v)-1]
		last.Kind++
		lengthsAre(t, s, c.of, v, nil, api.ErrNode)
		last.Kind--
		v[0].Kids++
		lengthsAre(t, s, c.of, append(v, c.each...), nil, api.ErrNode)
	}
}
