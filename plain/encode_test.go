package plain_test

import (
	"slices"
	"strings"
	"testing"

	"mortise/api"
	"mortise/plain"
	"mortise/size"
	"mortise/typing"
)

// written: values of each kind of type, fixed and variable, and their bytes; the chapter's examples and the document's first.
var written = []struct {
	of, text, bytes string
}{
	{"struct{a:u8,b:list<u16,9>,c:bool}", "{7, [1, 2], true}", "07 06 00 00 00 01 01 00 02 00"},
	{"vector<varint,2>", "[300, 0]", "08 00 00 00 0a 00 00 00 ac 02 00"},
	{"list<option<u8>,9>", "[none, some 5]", "08 00 00 00 09 00 00 00 00 01 05"},
	{"list<u8,9>", "[]", ""},
	{"union{3:u16,200:list<bool,2>}", "<200:[true]>", "c8 01"},
	{"struct{id:u32,name:list<u8,20>,ok:bool}", "{7, [104, 105], true}", "07 00 00 00 09 00 00 00 01 68 69"},
	{"list<list<u16,9>,3>", "[[1], [2]]", "08 00 00 00 0a 00 00 00 01 00 02 00"},
	{"union{3:u16,200:option<varint>}", "<3:770>", "03 02 03"}, {"union{3:u16,200:option<varint>}", "<200:some 300>", "c8 01 ac 02"}, {"union{3:u16,200:option<varint>}", "<200:none>", "c8 00"},
	{"list<list<u8,9>,9>", "[[]]", "04 00 00 00"}, {"struct{a:u8,b:list<u8,9>}", "{1, []}", "01 05 00 00 00"},

	{"u8", "255", "ff"}, {"u8", "0", "00"}, {"u16", "513", "01 02"}, {"u16", "65535", "ff ff"}, {"u32", "67305985", "01 02 03 04"}, {"u64", "72623859790382856", "08 07 06 05 04 03 02 01"}, {"u64", "18446744073709551615", "ff ff ff ff ff ff ff ff"}, {"u64", "0", "00 00 00 00 00 00 00 00"},
	{"bool", "true", "01"}, {"bool", "false", "00"},
	{"varint", "0", "00"}, {"varint", "127", "7f"}, {"varint", "128", "80 01"}, {"varint", "16383", "ff 7f"}, {"varint", "16384", "80 80 01"}, {"varint", "9223372036854775808", "80 80 80 80 80 80 80 80 80 01"}, {"varint", "18446744073709551615", "ff ff ff ff ff ff ff ff ff 01"},

	{"vector<u16,3>", "[1, 2, 3]", "01 00 02 00 03 00"}, {"vector<bool,1>", "[true]", "01"}, {"vector<vector<u8,2>,2>", "[[1, 2], [3, 4]]", "01 02 03 04"}, {"vector<struct{x:u8,y:u16},2>", "[{1, 2}, {3, 4}]", "01 02 00 03 04 00"},
	{"vector<list<u8,9>,3>", "[[], [1, 2], []]", "0c 00 00 00 0c 00 00 00 0e 00 00 00 01 02"}, {"vector<varint,1>", "[300]", "04 00 00 00 ac 02"},
	{"vector<vector<varint,2>,2>", "[[1, 2], [3, 4]]", "08 00 00 00 12 00 00 00 08 00 00 00 09 00 00 00 01 02 08 00 00 00 09 00 00 00 03 04"},
	{"vector<union{1:u8,2:u16},2>", "[<2:1>, <1:2>]", "08 00 00 00 0b 00 00 00 02 01 00 01 02"}, {"vector<struct{x:list<u8,2>},2>", "[{[]}, {[9]}]", "08 00 00 00 0c 00 00 00 04 00 00 00 04 00 00 00 09"},

	{"list<u64,2>", "[1]", "01 00 00 00 00 00 00 00"}, {"list<bool,3>", "[true, false, true]", "01 00 01"}, {"list<vector<u8,2>,3>", "[[1, 2], [3, 4]]", "01 02 03 04"}, {"list<struct{x:bool},1>", "[{true}]", "01"}, {"list<struct{x:bool},1>", "[]", ""},
	{"list<list<u16,9>,3>", "[]", ""}, {"list<list<u16,9>,3>", "[[], [], []]", "0c 00 00 00 0c 00 00 00 0c 00 00 00"}, {"list<option<bool>,3>", "[none, some true, none]", "0c 00 00 00 0d 00 00 00 0f 00 00 00 00 01 01 00"}, {"list<varint,1>", "[300]", "04 00 00 00 ac 02"}, {"list<vector<varint,1>,2>", "[[7]]", "04 00 00 00 04 00 00 00 07"}, {"list<list<list<u8,2>,2>,2>", "[[[1]], [[], [2]]]", "08 00 00 00 0d 00 00 00 04 00 00 00 01 08 00 00 00 08 00 00 00 02"},

	{"option<u32>", "none", "00"}, {"option<u32>", "some 1", "01 01 00 00 00"}, {"option<list<u8,3>>", "some []", "01"}, {"option<list<u8,3>>", "some [7]", "01 07"}, {"option<option<bool>>", "none", "00"}, {"option<option<bool>>", "some none", "01 00"}, {"option<option<bool>>", "some some true", "01 01 01"}, {"option<vector<u16,2>>", "some [1, 2]", "01 01 00 02 00"},
	// An offset is counted from the struct's first byte, behind the option's.
	{"option<struct{a:u8,b:varint}>", "some {7, 300}", "01 07 05 00 00 00 ac 02"},

	{"union{255:u8,0:bool}", "<0:true>", "00 01"}, {"union{255:u8,0:bool}", "<255:9>", "ff 09"}, {"union{1:union{1:u8,2:bool},2:u8}", "<1:<2:true>>", "01 02 01"}, {"union{7:list<varint,2>}", "<7:[]>", "07"}, {"union{7:list<varint,2>}", "<7:[5]>", "07 04 00 00 00 05"}, {"union{7:struct{x:u8}}", "<7:{8}>", "07 08"},

	{"struct{x:u8}", "{1}", "01"}, {"struct{x:bool,y:u8,z:bool}", "{true, 2, false}", "01 02 00"}, {"struct{x:struct{y:u16,z:bool},w:u32}", "{{1, true}, 2}", "01 00 01 02 00 00 00"},
	{"struct{a:varint,b:varint}", "{1, 2}", "08 00 00 00 09 00 00 00 01 02"}, {"struct{a:list<u8,3>,b:u16,c:list<u8,3>}", "{[], 258, []}", "0a 00 00 00 02 01 0a 00 00 00"}, {"struct{a:struct{b:varint,c:u8},d:u8}", "{{5, 6}, 7}", "05 00 00 00 07 05 00 00 00 06 05"}, {"struct{a:option<struct{b:list<u8,2>}>}", "{some {[9]}}", "04 00 00 00 01 04 00 00 00 09"}, {"struct{a:union{3:u8},b:vector<u8,2>,c:option<u8>}", "{<3:4>, [5, 6], none}", "0a 00 00 00 05 06 0c 00 00 00 03 04 00"},
}

// P12.2, P12.3, P12.5: values and bytes, written out, both ways.
func TestWritten(t *testing.T) {
	for _, c := range written {
		s, last := built(t, c.of)
		v, b := nodes(t, c.text), hex(t, c.bytes)
		encodes(t, s, last, v, b, api.Fault{})
		decodes(t, s, last, b, v, api.Fault{}, api.Fault{})
		encodesAll(t, s, last, v)
		decodesAll(t, s, last, b)
	}
}

// P12.2: a value that is not of the type: each of typing's faults, at its place, at the root and inside.
func TestEncodeRefuses(t *testing.T) {
	s, last := built(t, "struct{a:u8,b:list<varint,2>,c:union{3:bool,5:u16},d:vector<u8,2>}")
	for _, c := range []struct {
		text string
		f    api.Fault
	}{
		{"{256, [], <3:true>, [1, 2]}", fault(api.ErrValue, 1)}, {"{1, [1, 2, 3], <4:true>, [1, 2]}", fault(api.ErrItems, 2)}, {"{1, [1, true], <4:true>, [1, 2]}", fault(api.ErrKind, 4)}, {"{1, [], <4:true>, [1, 2]}", fault(api.ErrArm, 3)}, {"{1, [], <5:true>, [1, 2]}", fault(api.ErrKind, 4)}, {"{1, [], <5:65536>, [1, 2]}", fault(api.ErrValue, 4)},
		{"{1, []}", fault(api.ErrItems, 0)}, {"[1, [], <3:true>, [1, 2]]", fault(api.ErrKind, 0)}, {"7", fault(api.ErrKind, 0)}, {"{1, [], <3:true>, [1]}", fault(api.ErrItems, 5)}, {"{1, [], <3:true>, [1, 2, 3]}", fault(api.ErrItems, 5)}, {"{1, [], <3:true>, [1, 256]}", fault(api.ErrValue, 7)}, {"{1, [], <3:true>, none}", fault(api.ErrKind, 5)},
	} {
		encodes(t, s, last, nodes(t, c.text), nil, c.f)
	}
	right := nodes(t, "{1, [2], <3:true>, [1, 2]}")
	for at := range right {
		encodes(t, s, last, right[:at], nil, fault(api.ErrNode, at))
	}
	encodes(t, s, last, append(slices.Clone(right), uintNode(1)), nil, fault(api.ErrNode, len(right)))
	encodes(t, s, last, []api.Node{{}}, nil, fault(api.ErrNode, 0))
	encodes(t, s, last, []api.Node{structNode(4), uintNode(1), {Kind: api.NodeSeq, Kids: -1}}, nil, fault(api.ErrNode, 2))
}

// P12.2: whatever a value is: typing's fault, or its bytes.
func TestEncodeAnyValue(t *testing.T) {
	d := dice(21)
	right := 0
	for n := range 2000 {
		s := chance(&d, 1+n%20, 3)
		v := anyValue(&d, 1+n%4)
		for i := range s.Types {
			b, f := encodesAll(t, s, i, v)
			if g := typing.Check(s, i, v); f != g {
				t.Errorf("P12.2: Encode(%s, %d, %s): %v, typing's fault is %v", brief(s), i, brief(v), f, g)
			}
			if f.Err == api.OK {
				right++
				decodes(t, s, i, b, v, api.Fault{}, api.Fault{})
			}
		}
	}
	if right < 500 {
		t.Errorf("only %d values were of their types", right)
	}
}

// P12.2: each node of a right value set otherwise.
func TestEncodeSpoilt(t *testing.T) {
	for _, c := range written {
		s, last := built(t, c.of)
		v := nodes(t, c.text)
		look := func() { encodesAll(t, s, last, v) }
		for at := range v {
			turned(&v[at].Kind, []int{-1, 0, 1, 2, 3, 4, 5, 6, 7}, look)
			turned(&v[at].Kids, []int{-1, 0, 1, 2, 3, 4, 65, 1 << 20, 1<<20 + 1}, look)
			turned(&v[at].N, []uint64{0, 1, 2, 127, 128, 200, 255, 256, 1<<16 - 1, 1 << 16, 1<<32 - 1, 1 << 32, 1 << 63, 1<<64 - 1}, look)
		}
		for _, l := range rearranged(v, api.Node{}, uintNode(0), seqNode(0), optionNode(1)) {
			encodesAll(t, s, last, l)
		}
	}
}

// great: types of the greatest numbers of items.
func great() api.Schema {
	return schema(uN(1), uN(8), number(), list(1<<20, 0), vector(1<<20, 1), list(1<<20, 2), vector(1<<20, 2), list(1<<20, 3), boolean(), option(8), vector(1<<20, 9), structure(3, 0, 5), list(1<<20, 8))
}

// P12.2, P12.3, P12.8: values of no items and of the greatest number.
func TestGreatValues(t *testing.T) {
	t.Parallel()
	s := great()
	items := func(of, count int, each ...api.Node) {
		t.Helper()
		v := append([]api.Node{seqNode(count)}, slices.Repeat(each, count)...)
		bothWays(t, s, of, v)
	}
	for _, count := range []int{0, 1, 1<<20 - 1, 1 << 20} {
		items(3, count, uintNode(255))
		items(5, count, uintNode(300))
		items(7, count, seqNode(0))
		items(12, count, boolNode(1))
	}
	items(4, 1<<20, uintNode(1<<64-1))
	items(6, 1<<20, uintNode(1<<64-1))
	items(6, 1<<20, uintNode(0))
	items(10, 1<<20, optionNode(0))
	items(10, 1<<20, optionNode(1), boolNode(1))
	both := slices.Concat([]api.Node{structNode(3), seqNode(1 << 20)}, slices.Repeat([]api.Node{uintNode(9)}, 1<<20), []api.Node{uintNode(8), seqNode(1 << 20)}, slices.Repeat([]api.Node{uintNode(1 << 40)}, 1<<20))
	bothWays(t, s, 11, both)
	for _, of := range []int{3, 5, 7, 12} {
		more := append([]api.Node{seqNode(1<<20 + 1)}, slices.Repeat([]api.Node{uintNode(1)}, 1<<20+1)...)
		encodes(t, s, of, more, nil, fault(api.ErrNode, 0))
	}
	encodes(t, s, 4, append([]api.Node{seqNode(1<<20 - 1)}, slices.Repeat([]api.Node{uintNode(1)}, 1<<20-1)...), nil, fault(api.ErrItems, 0))
}

// P12.2, P12.3: structs of the most fields, unions of the most arms and each tag, types as deep as may be.
func TestGreatTypes(t *testing.T) {
	d := dice(22)
	for _, fields := range []int{1, 2, 63, 64} {
		s := schema(kinds()...)
		var of []int
		for range fields {
			of = append(of, d.below(15))
		}
		s.Types = append(s.Types, structure(of...))
		for range 5 {
			bothWays(t, s, 15, valueOf(&d, s, 15, 5000))
		}
	}
	for first := 0; first < 256; first += 64 {
		s := schema(uN(2), number())
		arms := api.Type{Kind: api.KindUnion}
		for k := range 64 {
			arms.Parts = append(arms.Parts, api.Part{Tag: first + 63 - k, Type: k % 2})
		}
		s.Types = append(s.Types, arms)
		for tag := range uint64(256) {
			v := []api.Node{unionNode(tag), uintNode(300)}
			if int(tag) < first || int(tag) >= first+64 {
				encodes(t, s, 2, v, nil, fault(api.ErrArm, 0))
				decodes(t, s, 2, []byte{byte(tag)}, nil, fault(api.ErrTag, 0), fault(api.ErrTag, 0))
				continue
			}
			if b := bothWays(t, s, 2, v); b[0] != byte(tag) {
				t.Errorf("P12.2: %s is % x", brief(v), b)
			}
		}
	}
	deep := schema(tower(64)...)
	v := append(slices.Repeat([]api.Node{optionNode(1)}, 63), boolNode(1))
	encodes(t, deep, 63, v, hex(t, strings.Repeat("01 ", 64)), api.Fault{})
	for at := range v {
		bothWays(t, deep, 63-at, v[at:])
	}
	lists := schema(uN(1))
	for i := range 63 {
		lists.Types = append(lists.Types, list(2, i))
	}
	v = append(slices.Repeat([]api.Node{seqNode(1)}, 63), uintNode(7))
	bothWays(t, lists, 63, v)
	structs := schema(number())
	for i := range 63 {
		structs.Types = append(structs.Types, structure(i, 0))
	}
	bothWays(t, structs, 63, slices.Concat(slices.Repeat([]api.Node{structNode(2)}, 63), []api.Node{uintNode(7)}, slices.Repeat([]api.Node{uintNode(300)}, 63)))
}

// P12.8: the bytes are as many as size says, between Least and Most; both are reached.
func TestLengths(t *testing.T) {
	d := dice(23)
	least, most, fixed := 0, 0, 0
	for n := range 1500 {
		s := chance(&d, 1+n%12, 3)
		extents, _ := size.Of(s)
		for i, x := range extents {
			v := valueOf(&d, s, i, 200)
			if v == nil {
				continue
			}
			b, f := plain.Encode(s, i, v)
			length, e := size.Length(s, i, v)
			if f.Err != api.OK || e != api.OK || len(b) != length || length < x.Least || length > x.Most {
				t.Errorf("P12.8: Encode(%s, %d, %s) has %d bytes, %v; Length %d, %d, extent %+v", brief(s), i, brief(v), len(b), f, length, e, x)
			}
			if x.Fixed {
				fixed++
			} else if len(b) == x.Least {
				least++
			} else if len(b) == x.Most {
				most++
			}
		}
	}
	if least < 100 || most < 100 || fixed < 100 {
		t.Errorf("only %d of the least length, %d of the greatest, %d fixed", least, most, fixed)
	}
}
