package typing_test

import (
	"math"
	"slices"
	"testing"

	"mortise/api"
	"mortise/types"
	"mortise/typing"
	"mortise/value"
)

// example: the chapter's type: 0 u8, 1 varint, 2 list, 3 bool, 4 u16, 5 union, 6 struct.
func example(t *testing.T) api.Schema {
	t.Helper()
	s, last := built(t, "type a = struct { a: u8, b: list<varint, 2>, c: union { 3: bool, 5: u16 } };")
	if last != 6 {
		t.Fatalf("P9.2: the struct's number is %d", last)
	}
	return s
}

// P11.2, P11.3: the chapter's worked examples.
func TestExamples(t *testing.T) {
	s := example(t)
	for _, c := range []struct {
		text string
		want []int
		f    api.Fault
	}{
		{"{255, [], <3:true>}", []int{6, 0, 2, 5, 3}, api.Fault{}},
		{"{256, [], <3:true>}", nil, fault(api.ErrValue, 1)},
		{"{1, [1, 2, 3], <4:true>}", nil, fault(api.ErrItems, 2)},
		{"{1, [1, true], <4:true>}", nil, fault(api.ErrKind, 4)},
		{"{1, [], <4:true>}", nil, fault(api.ErrArm, 3)},
		{"{1, [], <5:true>}", nil, fault(api.ErrKind, 4)},
		{"{1, []}", nil, fault(api.ErrItems, 0)},
		{"[1, [], <3:true>]", nil, fault(api.ErrKind, 0)},
		{"7", nil, fault(api.ErrKind, 0)},
		{"{255, [9], <5:7>}", []int{6, 0, 2, 1, 5, 4}, api.Fault{}},
	} {
		are(t, s, 6, nodes(t, c.text), c.want, c.f)
		all(t, s, 6, nodes(t, c.text))
	}
	faulty(t, s, 6, []api.Node{structNode(3), uintNode(1), seqNode(0)}, api.ErrNode, 3)
}

// P11.2, P11.3: values of each kind of type, written out, and all that comes of them by a change.
func TestWritten(t *testing.T) {
	for _, c := range []struct {
		of, text string
		want     []int
	}{
		{"u8", "255", []int{0}}, {"u16", "0", []int{0}}, {"u32", "4294967295", []int{0}}, {"u64", "18446744073709551615", []int{0}}, {"bool", "true", []int{0}}, {"bool", "false", []int{0}}, {"varint", "18446744073709551615", []int{0}},
		{"vector<u16,3>", "[1, 2, 3]", []int{1, 0, 0, 0}}, {"vector<list<u8,9>,2>", "[[], [1, 2]]", []int{2, 1, 1, 0, 0}}, {"vector<vector<bool,2>,2>", "[[true, true], [false, true]]", []int{2, 1, 0, 0, 1, 0, 0}},
		{"list<u8,9>", "[]", []int{1}}, {"list<u64,2>", "[1, 2]", []int{1, 0, 0}}, {"list<list<u16,9>,3>", "[[1], [], [2, 3]]", []int{2, 1, 0, 1, 1, 0, 0}}, {"list<option<bool>,3>", "[none, some true]", []int{2, 1, 1, 0}},
		{"option<u32>", "none", []int{1}}, {"option<u32>", "some 1", []int{1, 0}}, {"option<list<u8,3>>", "some []", []int{2, 1}}, {"option<option<bool>>", "some none", []int{2, 1}}, {"option<option<bool>>", "some some true", []int{2, 1, 0}},
		{"union{3:u16,200:option<varint>}", "<3:770>", []int{3, 0}}, {"union{3:u16,200:option<varint>}", "<200:some 300>", []int{3, 2, 1}}, {"union{3:u16,200:option<varint>}", "<200:none>", []int{3, 2}}, {"union{255:u8,0:bool}", "<0:true>", []int{2, 1}}, {"union{255:u8,0:bool}", "<255:9>", []int{2, 0}}, {"union{1:union{1:u8,2:bool},2:u8}", "<1:<2:true>>", []int{4, 2, 1}},
		{"struct{x:u8}", "{1}", []int{1, 0}}, {"struct{id:u32,name:list<u8,20>,ok:bool}", "{7, [104, 105], true}", []int{4, 0, 2, 1, 1, 3}}, {"struct{x:struct{y:u16,z:bool},w:u64}", "{{1, true}, 2}", []int{4, 2, 0, 1, 3}}, {"struct{x:bool,y:u8,z:bool}", "{true, 2, false}", []int{3, 0, 1, 2}},
		// The same value of unlike types.
		{"list<vector<u8,2>,3>", "[[1, 2]]", []int{2, 1, 0, 0}}, {"vector<list<varint,2>,1>", "[[1, 2]]", []int{2, 1, 0, 0}},
	} {
		s, last := built(t, "type a="+c.of+";")
		v := nodes(t, c.text)
		are(t, s, last, v, c.want, api.Fault{})
		if f := all(t, s, last, v); f.Err != api.OK {
			t.Errorf("%s is not of %s: %v", c.text, c.of, f)
		}
		spoilt(t, s, last, v)
	}
}

// P11.3: a type that is used by several names, parts or items is told by its one number, wherever it stands.
func TestTypesShared(t *testing.T) {
	s, last := built(t, "type p=struct{x:u8,y:u8}; type l=list<p,3>; type a=struct{a:l,b:p,c:option<l>,d:union{1:p,2:l},e:p};")
	// 0 u8 and 1 u8 are p's, 2 p, 3 l, 4 option, 5 union, 6 struct.
	are(t, s, last, nodes(t, "{[{1, 2}, {3, 4}], {5, 6}, some [{7, 8}], <2:[]>, {9, 9}}"), []int{6, 3, 2, 0, 1, 2, 0, 1, 2, 0, 1, 4, 3, 2, 0, 1, 5, 3, 2, 0, 1}, api.Fault{})
	are(t, s, last, nodes(t, "{[], {5, 6}, none, <1:{7, 8}>, {9, 9}}"), []int{6, 3, 2, 0, 1, 4, 5, 2, 0, 1, 2, 0, 1}, api.Fault{})
	one := schema(uN(1), boolean(), uN(1), union(0, 2, 1, 0), structure(2, 0, 3, 2))
	are(t, one, 4, []api.Node{structNode(4), uintNode(1), uintNode(2), unionNode(199), uintNode(3), uintNode(4)}, []int{4, 2, 0, 3, 2, 2}, api.Fault{})
	are(t, one, 4, []api.Node{structNode(4), uintNode(1), uintNode(2), unionNode(197), uintNode(3), uintNode(4)}, []int{4, 2, 0, 3, 0, 2}, api.Fault{})
}

// rights: a right value whose root is of each kind of node.
func rights() [][]api.Node {
	return [][]api.Node{{uintNode(0)}, {boolNode(0)}, {seqNode(0)}, {structNode(1), uintNode(0)}, {optionNode(0)}, {unionNode(200), uintNode(0)}}
}

// P11.2: ErrKind: each kind of type takes one kind of nodes alone, at the root, at a later node and at the last one.
func TestKinds(t *testing.T) {
	s := schema(uN(1), uN(2), uN(4), uN(8), boolean(), number(), vector(1, 0), list(1, 0), option(0), union(0), structure(0))
	takes := []int{0, 0, 0, 0, 1, 0, 2, 2, 4, 5, 3}
	for i, n := 0, len(s.Types); i < n; i++ {
		// In a struct: ahead of another field, and as the last one.
		s.Types = append(s.Types, structure(4, i, 4), structure(4, i))
		for kind, v := range rights() {
			if i == 6 && kind == 2 {
				v = []api.Node{seqNode(1), uintNode(0)}
			}
			later := slices.Concat([]api.Node{structNode(3), boolNode(1)}, v, []api.Node{boolNode(0)})
			last := slices.Concat([]api.Node{structNode(2), boolNode(1)}, v)
			if kind == takes[i] {
				for of, v := range map[int][]api.Node{i: v, len(s.Types) - 2: later, len(s.Types) - 1: last} {
					if f := typing.Check(s, of, v); f != (api.Fault{}) {
						t.Errorf("P11.2: Check of %s, type %d: %v", brief(v), of, f)
					}
				}
				continue
			}
			faulty(t, s, i, v, api.ErrKind, 0)
			faulty(t, s, len(s.Types)-2, later, api.ErrKind, 2)
			faulty(t, s, len(s.Types)-1, last, api.ErrKind, 2)
		}
	}
}

// P11.2: ErrKind goes ahead of ErrValue, ErrItems and ErrArm at one node.
func TestKindIsFirst(t *testing.T) {
	s := schema(uN(1), vector(2, 0), list(2, 0), structure(0, 0), union(0), option(0))
	for _, c := range []struct {
		of int
		v  []api.Node
	}{
		{0, []api.Node{unionNode(255), uintNode(256)}}, {0, []api.Node{seqNode(1), uintNode(256)}}, {1, []api.Node{structNode(3), uintNode(0), uintNode(0), uintNode(0)}}, {1, []api.Node{uintNode(300)}}, {2, []api.Node{structNode(3), uintNode(0), uintNode(0), uintNode(0)}}, {3, []api.Node{seqNode(1), uintNode(0)}}, {3, []api.Node{unionNode(9), uintNode(0)}}, {4, []api.Node{uintNode(9)}}, {4, []api.Node{seqNode(0)}}, {5, []api.Node{seqNode(2), uintNode(0), uintNode(0)}},
	} {
		faulty(t, s, c.of, c.v, api.ErrKind, 0)
	}
}

// P11.2: ErrValue: of a uN the last number that fits, and one beyond it; a varint takes all, a tag is no uN.
func TestValues(t *testing.T) {
	for _, bytes := range []int{1, 2, 4, 8} {
		s := schema(boolean(), uN(bytes), number(), option(1), list(3, 1))
		top := uint64(1)<<(8*bytes) - 1
		for _, n := range []uint64{0, 1, 127, 128, 254, 255, 256, 257, 1<<16 - 1, 1 << 16, 1<<24 - 1, 1<<32 - 1, 1 << 32, 1<<63 - 1, 1 << 63, top - 1, top, top + 1, 1<<64 - 1} {
			u := uintNode(n)
			are(t, s, 2, []api.Node{u}, []int{2}, api.Fault{})
			if n <= top {
				are(t, s, 1, []api.Node{u}, []int{1}, api.Fault{})
				are(t, s, 3, []api.Node{optionNode(1), u}, []int{3, 1}, api.Fault{})
				are(t, s, 4, []api.Node{seqNode(3), uintNode(1), u, u}, []int{4, 1, 1, 1}, api.Fault{})
				continue
			}
			faulty(t, s, 1, []api.Node{u}, api.ErrValue, 0)
			faulty(t, s, 3, []api.Node{optionNode(1), u}, api.ErrValue, 1)
			faulty(t, s, 4, []api.Node{seqNode(3), uintNode(1), u, u}, api.ErrValue, 2)
			faulty(t, s, 4, []api.Node{seqNode(3), uintNode(1), uintNode(top), u}, api.ErrValue, 3)
		}
	}
}

// items: a node with as many u8 as it says.
func items(n api.Node) []api.Node {
	return append([]api.Node{n}, slices.Repeat([]api.Node{uintNode(7)}, n.Kids)...)
}

// P11.2: ErrItems: of vectors, lists and structs: the first and the last number that fits, one below and one beyond.
func TestItems(t *testing.T) {
	s := schema(uN(1), boolean())
	for _, n := range []int{1, 2, 3, 63, 64, 65, 255, 256, 257, 1000} {
		s.Types = append(s.Types[:2], vector(n, 0), list(n, 0))
		for _, kids := range []int{0, 1, 2, 3, n - 1, n, n + 1, 2 * n, 2*n + 1} {
			f := [2]api.Fault{}
			if kids != n {
				f[0] = fault(api.ErrItems, 0)
			}
			if kids > n {
				f[1] = fault(api.ErrItems, 0)
			}
			for i := range f {
				var want []int
				if f[i].Err == api.OK {
					want = append([]int{2 + i}, make([]int, kids)...)
				}
				are(t, s, 2+i, items(seqNode(kids)), want, f[i])
			}
		}
	}
	for n := 1; n <= 64; n++ {
		s.Types = append(s.Types[:2], structure(make([]int, n)...))
		for kids := 1; kids <= 64; kids++ {
			if kids == n {
				are(t, s, 2, items(structNode(kids)), append([]int{2}, make([]int, n)...), api.Fault{})
			} else {
				faulty(t, s, 2, items(structNode(kids)), api.ErrItems, 0)
			}
		}
		// No right node has so many, or none.
		faulty(t, s, 2, items(structNode(65)), api.ErrNode, 0)
		faulty(t, s, 2, items(structNode(0)), api.ErrNode, 0)
	}
}

// P11.2: ErrItems is told at the node that has too many, not at its kids, whatever these are.
func TestItemsAheadOfKids(t *testing.T) {
	s := schema(uN(1), vector(2, 0), list(2, 0), structure(0, 0), option(1), structure(0, 2, 0))
	wrong := []api.Node{boolNode(0), boolNode(0), boolNode(0)}
	for of := 1; of <= 3; of++ {
		head := seqNode(3)
		if of == 3 {
			head = structNode(3)
		}
		faulty(t, s, of, append([]api.Node{head}, wrong...), api.ErrItems, 0)
		faulty(t, s, of, append([]api.Node{{Kind: head.Kind, Kids: 2}}, wrong[:2]...), api.ErrKind, 1)
	}
	faulty(t, s, 4, append([]api.Node{optionNode(1), seqNode(3)}, wrong...), api.ErrItems, 1)
	faulty(t, s, 5, slices.Concat([]api.Node{structNode(3), uintNode(0), seqNode(3)}, wrong, wrong[:1]), api.ErrItems, 2)
}

// P11.2: ErrArm: all tags that a node may have, against arms of all tags.
func TestArms(t *testing.T) {
	for _, tags := range [][]int{{0}, {255}, {7}, {0, 255}, {255, 0}, {3, 5}, {9, 1, 200, 100}} {
		s := schema(uN(1), boolean(), api.Type{Kind: api.KindUnion}, structure(1, 2))
		for k, tag := range tags {
			s.Types[2].Parts = append(s.Types[2].Parts, api.Part{Tag: tag, Type: k % 2})
		}
		for tag := range 256 {
			v := []api.Node{unionNode(uint64(tag)), uintNode(0)}
			w := []api.Node{unionNode(uint64(tag)), boolNode(0)}
			switch slices.Index(tags, tag) {
			case -1:
				faulty(t, s, 2, v, api.ErrArm, 0)
				faulty(t, s, 2, w, api.ErrArm, 0)
				faulty(t, s, 3, append([]api.Node{structNode(2), boolNode(1)}, v...), api.ErrArm, 2)
			case 0, 2:
				are(t, s, 2, v, []int{2, 0}, api.Fault{})
				faulty(t, s, 2, w, api.ErrKind, 1)
			default:
				are(t, s, 2, w, []int{2, 1}, api.Fault{})
				faulty(t, s, 2, v, api.ErrKind, 1)
			}
		}
		faulty(t, s, 2, []api.Node{unionNode(256), uintNode(0)}, api.ErrNode, 0)
	}
	of := make([]int, 64)
	for i := range of {
		of[i] = i
	}
	s := schema(slices.Repeat([]api.Type{boolean()}, 64)...)
	s.Types = append(s.Types, union(of...))
	for i := range of {
		are(t, s, 64, []api.Node{unionNode(uint64(200 - i)), boolNode(1)}, []int{64, i}, api.Fault{})
	}
	faulty(t, s, 64, []api.Node{unionNode(136), boolNode(1)}, api.ErrArm, 0)
	faulty(t, s, 64, []api.Node{unionNode(201), boolNode(1)}, api.ErrArm, 0)
}

// P11.2: types.Check's fault goes ahead of ErrPlace, that ahead of value.Check's fault, that ahead of a node that doesn't fit.
func TestOrder(t *testing.T) {
	values := [][]api.Node{{boolNode(1)}, {boolNode(2)}, nil, {}, {uintNode(1)}, {seqNode(3), uintNode(1)}}
	for _, c := range refused() {
		if f := types.Check(c.s); f != c.f {
			t.Fatalf("P9.3: Check of %s: %v, want %v", brief(c.s), f, c.f)
		}
		for _, i := range []int{0, -1, len(c.s.Types) - 1, len(c.s.Types), len(c.s.Types) + 1, math.MinInt, math.MaxInt} {
			for _, v := range values {
				are(t, c.s, i, v, nil, c.f)
			}
		}
	}
	for _, n := range []int{1, 2, 3, 64} {
		s := schema(tower(n)...)
		for _, i := range append(strangeNumbers(), n-1, n, n+1) {
			for k, v := range values {
				switch {
				case i < 0 || i >= n:
					faulty(t, s, i, v, api.ErrPlace, 0)
				case k == 0 && i == 0:
					are(t, s, i, v, []int{0}, api.Fault{})
				case k == 0 || k == 4:
					faulty(t, s, i, v, api.ErrKind, 0)
				case k == 5:
					faulty(t, s, i, v, api.ErrNode, 2)
				default:
					faulty(t, s, i, v, api.ErrNode, 0)
				}
			}
		}
		v := append(slices.Repeat([]api.Node{optionNode(1)}, n-1), boolNode(1))
		var want []int
		for i := range n {
			want = append(want, n-1-i)
		}
		are(t, s, n-1, v, want, api.Fault{})
		faulty(t, s, n, v, api.ErrPlace, 0)
		faulty(t, s, -1, v, api.ErrPlace, 0)
	}
}

// P11.2: a list that is no value is told so at its place, though nodes ahead of it don't fit.
func TestNoValueIsFirst(t *testing.T) {
	s := example(t)
	wrong := nodes(t, "{256, [1, true, 3], <4:none>}")
	faulty(t, s, 6, wrong, api.ErrValue, 1)
	for at := range wrong {
		faulty(t, s, 6, wrong[:at], api.ErrNode, at)
		l := slices.Clone(wrong)
		l[at].Kind = 7
		faulty(t, s, 6, l, api.ErrNode, at)
	}
	faulty(t, s, 6, append(slices.Clone(wrong), uintNode(1)), api.ErrNode, len(wrong))
	faulty(t, s, 6, append(slices.Clone(wrong), wrong...), api.ErrNode, len(wrong))
	faulty(t, s, 6, []api.Node{uintNode(7), uintNode(7)}, api.ErrNode, 1)
	faulty(t, s, 0, []api.Node{{Kind: api.NodeUint, N: 256, Kids: 1}, boolNode(1)}, api.ErrNode, 0)
}

// P11.2: a schema of no types has no type's number.
func TestNoTypes(t *testing.T) {
	for _, i := range strangeNumbers() {
		for _, v := range [][]api.Node{nil, {uintNode(0)}, {uintNode(0), uintNode(0)}} {
			for _, s := range []api.Schema{{}, {Types: []api.Type{}, Roots: []api.Root{}}, {Types: leaves()[:0]}} {
				faulty(t, s, i, v, api.ErrPlace, 0)
			}
		}
	}
}

// P11.2: values of no nodes, that break off at each node, and that go on too long, of each kind of type.
func TestBreaksOff(t *testing.T) {
	s, last := built(t, "type a=struct{a:u8,b:list<varint,2>,c:union{3:bool,5:u16},d:vector<option<u32>,2>};")
	v := nodes(t, "{255, [1, 2], <5:65535>, [none, some 9]}")
	are(t, s, last, v, []int{9, 0, 2, 1, 1, 5, 4, 8, 7, 7, 6}, api.Fault{})
	for i := range s.Types {
		faulty(t, s, i, nil, api.ErrNode, 0)
		faulty(t, s, i, []api.Node{}, api.ErrNode, 0)
	}
	for at := range v {
		faulty(t, s, last, v[:at], api.ErrNode, at)
		for _, n := range v {
			faulty(t, s, last, append(slices.Clone(v), n), api.ErrNode, len(v))
		}
	}
	for _, v := range rights() {
		for i := range s.Types {
			faulty(t, s, i, append(slices.Clone(v), v...), api.ErrNode, len(v))
			if len(v) > 1 {
				faulty(t, s, i, v[:1], api.ErrNode, 1)
			}
		}
	}
}

// P11.2: of two faults in one value the one whose node stands first is told, at whatever depth they lie.
func TestTwoFaults(t *testing.T) {
	s, last := built(t, "type a=struct{a:u8,b:list<varint,2>,c:union{3:bool,5:u16},d:vector<option<u8>,2>};")
	good := []string{"255", "[1, 2]", "<5:65535>", "[none, some 9]"}
	at := []int{1, 2, 5, 7}
	bad := [][]struct {
		text string
		f    api.Fault
	}{
		{{"256", fault(api.ErrValue, 0)}, {"true", fault(api.ErrKind, 0)}},
		{{"{1, 2}", fault(api.ErrKind, 0)}, {"[true, 2]", fault(api.ErrKind, 1)}, {"[1, none]", fault(api.ErrKind, 2)}},
		{{"<4:65535>", fault(api.ErrArm, 0)}, {"<5:65536>", fault(api.ErrValue, 1)}, {"<3:65535>", fault(api.ErrKind, 1)}},
		{{"[1, some 9]", fault(api.ErrKind, 1)}, {"[none, some 256]", fault(api.ErrValue, 3)}, {"[none, some true]", fault(api.ErrKind, 3)}},
	}
	text := func(parts []string) string {
		return "{" + parts[0] + ", " + parts[1] + ", " + parts[2] + ", " + parts[3] + "}"
	}
	for i := range bad {
		for _, one := range bad[i] {
			parts := slices.Clone(good)
			parts[i] = one.text
			faulty(t, s, last, nodes(t, text(parts)), one.f.Err, at[i]+one.f.At)
			for k := i + 1; k < len(bad); k++ {
				for _, two := range bad[k] {
					both := slices.Clone(parts)
					both[k] = two.text
					faulty(t, s, last, nodes(t, text(both)), one.f.Err, at[i]+one.f.At)
				}
			}
		}
	}
	// A fault of the root goes ahead of all those of its kids.
	faulty(t, s, last, nodes(t, "{256, {1}, <4:1>}"), api.ErrItems, 0)
	faulty(t, s, last, nodes(t, "[256, {1}, <4:1>, none]"), api.ErrKind, 0)
}

// P11.2, P11.3: all lists of up to three nodes of some kinds, against types of all kinds.
func TestSmall(t *testing.T) {
	s := schema(append(leaves(), vector(1, 5), vector(2, 4), list(2, 5), option(4), union(4, 7, 8), structure(5), structure(4, 8), option(8), list(1, 7))...)
	alphabet := []api.Node{{}, uintNode(1), uintNode(1 << 20), {Kind: api.NodeUint, Kids: 1}, boolNode(0), boolNode(2), {Kind: api.NodeBool, Kids: 1}, seqNode(0), seqNode(1), seqNode(2), {Kind: api.NodeSeq, N: 1, Kids: 1}, seqNode(-1), structNode(1), structNode(2), structNode(0), optionNode(0), optionNode(1), {Kind: api.NodeOption, N: 1}, optionNode(-1), unionNode(200), unionNode(198), {Kind: api.NodeUnion, N: 200}, unionNode(1), unionNode(456)}
	for i := range s.Types {
		all(t, s, i, nil)
		for _, a := range alphabet {
			all(t, s, i, []api.Node{a})
			for _, b := range alphabet {
				all(t, s, i, []api.Node{a, b})
				if a.Kids != 2 && a.Kids != 1 {
					continue
				}
				for _, c := range alphabet {
					all(t, s, i, []api.Node{a, b, c})
				}
			}
		}
	}
}

// P11.2: strange nodes, by themselves and behind each kind that has kids.
func TestStrangeNodes(t *testing.T) {
	s := schema(append(leaves(), list(1<<20, 9), option(5), structure(5, 9), union(11, 4, 8), vector(1<<20, 7))...)
	heads := [][]api.Node{nil, {seqNode(1)}, {optionNode(1)}, {unionNode(199)}, {structNode(2), uintNode(5)}, {seqNode(1 << 20)}}
	for _, n := range strangeNodes() {
		for _, head := range heads {
			for i := range s.Types {
				all(t, s, i, append(slices.Clone(head), n))
			}
		}
	}
}

// P11.2, P11.3: values that look like chance, right ones and spoilt ones, against all types of their schema.
func TestChance(t *testing.T) {
	d := dice(22)
	for n := range 300 {
		s := chance(&d, 1+n%30, 3)
		for range 3 {
			i := d.below(len(s.Types))
			v := valueOf(&d, s, i, 40)
			if v == nil {
				continue
			}
			if f := all(t, s, i, v); f.Err != api.OK {
				t.Fatalf("%s is not of type %d of %s: %v", brief(v), i, brief(s), f)
			}
			if len(v) < 9 {
				spoilt(t, s, i, v)
			} else {
				replaced(t, s, i, v)
			}
			for other := range s.Types {
				all(t, s, other, v)
			}
		}
		for i := range s.Types {
			all(t, s, i, anyValue(&d, 4))
		}
	}
}

// P11.3: each node's type is told for the node's own value too, asked for by itself.
func TestTypesEachNode(t *testing.T) {
	d := dice(21)
	asked := 0
	for n := range 200 {
		s := chance(&d, 1+n%40, 4)
		v := valueOf(&d, s, len(s.Types)-1, 300)
		if v == nil {
			continue
		}
		asked++
		got, f := typing.Types(s, len(s.Types)-1, v)
		if f.Err != api.OK || len(got) != len(v) || got[0] != len(s.Types)-1 {
			t.Fatalf("P11.3: Types(%s, %s) = %v, %v", brief(s), brief(v), got, f)
		}
		for at, of := range got {
			end, _ := value.Next(v, at)
			own, f := typing.Types(s, of, v[at:end])
			if f.Err != api.OK || !slices.Equal(own, got[at:end]) {
				t.Fatalf("P11.3: %s: the value of node %d of %s: %v, %v, of the whole %v", brief(s), at, brief(v), own, f, got)
			}
		}
	}
	if asked < 100 {
		t.Errorf("only %d values were asked for", asked)
	}
}

// P11.2, P11.3: great values: as many items as may be, and one more or less; more nodes than MaxCount.
func TestGreat(t *testing.T) {
	s := schema(uN(8), number(), list(1<<20, 0), vector(1<<20, 0), list(1<<20, 1), vector(1<<20, 1), boolean(), option(6), list(1<<20, 7), list(1<<20-1, 0), vector(1<<20-1, 0))
	for _, c := range []struct {
		of   int
		each []api.Node
		want []int
	}{
		{2, []api.Node{uintNode(1<<64 - 1)}, []int{0}}, {3, []api.Node{uintNode(1<<64 - 1)}, []int{0}}, {4, []api.Node{uintNode(1<<64 - 1)}, []int{1}}, {5, []api.Node{uintNode(127)}, []int{1}}, {8, []api.Node{optionNode(1), boolNode(0)}, []int{7, 6}},
	} {
		v := append([]api.Node{seqNode(1 << 20)}, slices.Repeat(c.each, 1<<20)...)
		are(t, s, c.of, v, append([]int{c.of}, slices.Repeat(c.want, 1<<20)...), api.Fault{})
		faulty(t, s, c.of, v[:len(v)-1], api.ErrNode, len(v)-1)
		faulty(t, s, c.of, append(slices.Clone(v), v[len(v)-1]), api.ErrNode, len(v))
		held := v[len(v)-1]
		v[len(v)-1] = seqNode(0)
		faulty(t, s, c.of, v, api.ErrKind, len(v)-1)
		v[len(v)-1] = held
		faulty(t, s, 9, v, api.ErrItems, 0)
		faulty(t, s, 10, v, api.ErrItems, 0)
		v[0].Kids++
		faulty(t, s, c.of, append(v, c.each...), api.ErrNode, 0)
	}
}
