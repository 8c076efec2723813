package typing_test

import (
	"math"
	"slices"
	"testing"

	"mortise/api"
	"mortise/typing"
	"mortise/value"
)

// P11.4: the chapter's worked examples.
func TestSomeExamples(t *testing.T) {
	s := example(t)
	someIs(t, s, 6, nil, nodes(t, "{0, [], <3:false>}"), api.OK)
	someIs(t, s, 6, []int{9, 300, 5, 8, -1, 1, 65537}, nodes(t, "{44, [8, 18446744073709551615], <5:1>}"), api.OK)
	someAll(t, s, 6, []int{9, 300, 5, 8, -1, 1, 65537})
}

// P11.4: of each kind of type, written out: picks within what it takes, at its edges, above it and below 0.
func TestSomeWritten(t *testing.T) {
	for _, c := range []struct {
		of    string
		picks []int
		want  string
	}{
		{"u8", []int{0}, "0"}, {"u8", []int{255}, "255"}, {"u8", []int{256}, "0"}, {"u8", []int{-1}, "255"}, {"u8", []int{-256}, "0"}, {"u8", []int{-257}, "255"}, {"u8", []int{math.MaxInt}, "255"}, {"u8", []int{math.MinInt}, "0"},
		{"u16", []int{65535}, "65535"}, {"u16", []int{65536}, "0"}, {"u16", []int{-1}, "65535"}, {"u16", []int{math.MinInt + 3}, "3"},
		{"u32", []int{1<<32 - 1}, "4294967295"}, {"u32", []int{1 << 32}, "0"}, {"u32", []int{-1}, "4294967295"}, {"u32", []int{-1 << 31}, "2147483648"},
		{"u64", []int{math.MaxInt}, "9223372036854775807"}, {"u64", []int{math.MinInt}, "9223372036854775808"}, {"u64", []int{-1}, "18446744073709551615"}, {"u64", []int{-2}, "18446744073709551614"},
		{"varint", []int{300}, "300"}, {"varint", []int{math.MaxInt}, "9223372036854775807"}, {"varint", []int{math.MinInt}, "9223372036854775808"}, {"varint", []int{-1}, "18446744073709551615"}, {"varint", nil, "0"},
		{"bool", []int{0}, "false"}, {"bool", []int{1}, "true"}, {"bool", []int{2}, "false"}, {"bool", []int{-1}, "true"}, {"bool", []int{-2}, "false"}, {"bool", []int{math.MaxInt}, "true"}, {"bool", nil, "false"},
		{"list<bool,3>", []int{3, 1, 1, 1}, "[true, true, true]"}, {"list<bool,3>", []int{4, 1}, "[]"}, {"list<bool,3>", []int{5, 1}, "[true]"}, {"list<bool,3>", []int{7}, "[false, false, false]"},
		// -1 is 2^64 - 1: 3 modulo 4, 1 modulo 7, 0 modulo 3 and 5.
		{"list<bool,3>", []int{-1}, "[false, false, false]"}, {"list<bool,6>", []int{-1}, "[false]"}, {"list<bool,2>", []int{-1}, "[]"}, {"list<bool,4>", []int{-1}, "[]"}, {"list<bool,2>", []int{-2, 1, 0}, "[true, false]"}, {"list<bool,1>", []int{-1, -1}, "[true]"},
		{"option<u8>", []int{0, 5}, "none"}, {"option<u8>", []int{1, 5}, "some 5"}, {"option<u8>", []int{2, 5}, "none"}, {"option<u8>", []int{-1, -1}, "some 255"}, {"option<u8>", []int{-2}, "none"}, {"option<u8>", []int{3}, "some 0"}, {"option<option<bool>>", []int{1, 1, 1}, "some some true"}, {"option<option<bool>>", []int{1, 0, 1}, "some none"},
		{"union{9:u8,2:bool,200:varint}", []int{0, 7}, "<9:7>"}, {"union{9:u8,2:bool,200:varint}", []int{1, 7}, "<2:true>"}, {"union{9:u8,2:bool,200:varint}", []int{2, 300}, "<200:300>"}, {"union{9:u8,2:bool,200:varint}", []int{3, 300}, "<9:44>"}, {"union{9:u8,2:bool,200:varint}", []int{-1, 7}, "<9:7>"}, {"union{9:u8,2:bool,200:varint}", []int{-2, 7}, "<200:7>"}, {"union{9:u8,2:bool,200:varint}", nil, "<9:0>"}, {"union{255:u8}", []int{77, 8}, "<255:8>"}, {"union{3:bool,0:bool}", []int{-1, 1}, "<0:true>"},
		{"vector<u8,3>", []int{99, 1, 2, 3}, "[1, 2, 3]"}, {"vector<u8,3>", []int{-1, 1}, "[1, 0, 0]"}, {"vector<vector<bool,2>,2>", []int{7, 7, 1, 0, 7, 0, 1}, "[[true, false], [false, true]]"},
		{"struct{x:u8,y:bool}", []int{99, 1, 3}, "{1, true}"}, {"struct{x:u8,y:bool}", []int{0, 1}, "{1, false}"}, {"struct{x:struct{y:u8,z:u16},w:u64}", []int{-9, -9, 1, 2, 3}, "{{1, 2}, 3}"},
		// Too many picks: those that are left are not looked at.
		{"u8", []int{5, 6, 7}, "5"}, {"list<u8,9>", []int{1, 2, 3, 4}, "[2]"}, {"option<u8>", []int{0, 1, 1, 1}, "none"},
		// What a node takes is not given again, whoever has taken it.
		{"struct{a:list<u8,2>,b:option<bool>,c:union{1:u8,2:vector<u16,2>}}", []int{0, 2, 10, 11, 1, 1, 1, 0, 12, 13}, "{[10, 11], some true, <2:[12, 13]>}"},
	} {
		s, last := built(t, "type a="+c.of+";")
		someIs(t, s, last, c.picks, nodes(t, c.want), api.OK)
		someAll(t, s, last, c.picks)
	}
}

// P11.4: no picks, and fewer than nodes: the rest takes 0; more picks than nodes change nothing.
func TestSomeFewAndMany(t *testing.T) {
	d := dice(51)
	for n := range 200 {
		s := chance(&d, 1+n%30, 3)
		i := len(s.Types) - 1
		picks := d.picks(40)
		for k := range picks {
			v, e := someAll(t, s, i, picks[:k])
			someIs(t, s, i, append(slices.Clone(picks[:k]), make([]int, 50)...), v, e)
			if e == api.OK && len(v) <= k {
				someIs(t, s, i, append(slices.Clone(picks[:len(v)]), d.picks(5)...), v, e)
			}
		}
		someIs(t, s, i, []int{}, first(made(s, i, nil)), api.OK)
	}
}

func first(v []api.Node, _ api.Errno) []api.Node { return v }

// P11.4: each pick at each edge, of types of all kinds, alone and inside others.
func TestSomeEdges(t *testing.T) {
	s := schema(append(leaves(), list(1, 4), list(2, 4), list(7, 5), list(255, 0), option(12), union(4, 13, 5), vector(1, 14), structure(12, 4, 17), list(3, 19))...)
	for i := range s.Types {
		for _, p := range strangeNumbers() {
			someAll(t, s, i, []int{p})
			for _, q := range strangeNumbers() {
				someAll(t, s, i, []int{p, q, p})
			}
		}
	}
}

// P11.4: types.Check's error goes ahead of ErrPlace, and that ahead of ErrMany.
func TestSomeOrder(t *testing.T) {
	for _, c := range refused() {
		for _, i := range []int{0, -1, len(c.s.Types) - 1, len(c.s.Types), math.MinInt, math.MaxInt} {
			someIs(t, c.s, i, nil, nil, c.f.Err)
			someIs(t, c.s, i, []int{1, 2, 3}, nil, c.f.Err)
		}
	}
	many := schema(boolean(), vector(1<<20, 0), vector(1<<20, 1))
	for _, s := range []api.Schema{{}, schema(boolean()), many} {
		for _, i := range append(strangeNumbers(), len(s.Types)) {
			if i < 0 || i >= len(s.Types) {
				someIs(t, s, i, nil, nil, api.ErrPlace)
				someIs(t, s, i, []int{7}, nil, api.ErrPlace)
			}
		}
	}
	someIs(t, many, 0, []int{7}, []api.Node{boolNode(1)}, api.OK)
	someIs(t, many, 1, nil, nil, api.ErrMany)
	someIs(t, many, 2, nil, nil, api.ErrMany)
	wrong := schema(append(many.Types, api.Type{})...)
	someIs(t, wrong, 1, nil, nil, api.ErrSchema)
}

// P11.4: values of exactly MaxCount nodes, and of one more, however they come to have so many.
func TestSomeAsManyAsMayBe(t *testing.T) {
	const most = 1 << 20
	s := schema(boolean(), vector(most-1, 0), vector(most, 0), list(most, 0), list(most-1, 0), vector(most/2-2, 0), vector(most/2-1, 0), structure(6, 5), structure(6, 6), structure(6, 5, 0), option(1), option(0), vector(most-1, 11), vector(most-2, 11), union(1, 0), vector(most-2, 0), option(15))
	bools := slices.Repeat([]api.Node{boolNode(0)}, most)
	for _, c := range []struct {
		of    int
		picks []int
		count int // 0: too many
	}{
		{1, nil, most}, {2, nil, 0}, {3, []int{most - 1}, most}, {3, []int{most}, 0}, {3, []int{most + 1}, 1}, {3, []int{most - 2}, most - 1}, {4, []int{most - 1}, most}, {4, []int{-1}, most},
		{7, nil, most}, {8, nil, 0}, {9, nil, 0}, {10, nil, 1}, {10, []int{1}, 0}, {16, []int{1}, most}, {14, []int{1}, 2}, {14, []int{0}, 0},
	} {
		if c.count == 0 {
			someIs(t, s, c.of, c.picks, nil, api.ErrMany)
			continue
		}
		v, e := typing.Some(s, c.of, c.picks)
		if e != api.OK || len(v) != c.count || typing.Check(s, c.of, v) != (api.Fault{}) {
			t.Errorf("P11.4: Some(type %d, %v) has %d nodes, %d, want %d", c.of, c.picks, len(v), e, c.count)
		}
	}
	someIs(t, s, 1, nil, append([]api.Node{seqNode(most - 1)}, bools[1:]...), api.OK)
	// A kid more at the first, at a later and at the last node.
	picks := make([]int, most+5)
	for _, at := range []int{1, 2, most / 2, most - 2, most - 1} {
		picks[at] = 1
		someIs(t, s, 12, picks, nil, api.ErrMany)
		v := slices.Repeat([]api.Node{optionNode(0)}, most)
		v[0] = seqNode(most - 2)
		if at == most-1 {
			// One beyond the last option: no one takes it.
			v = v[:most-1]
		} else {
			v[at], v[at+1] = optionNode(1), boolNode(0)
		}
		someIs(t, s, 13, picks, v, api.OK)
		picks[at] = 0
	}
	picks[1], picks[3] = 1, 1
	someIs(t, s, 13, picks, nil, api.ErrMany)
}

// P11.4: types whose values would have more nodes than can be counted are answered as soon as others.
func TestSomeMuchTooMany(t *testing.T) {
	for _, next := range []func(i int) api.Type{
		func(i int) api.Type { return vector(1<<20, i) }, func(i int) api.Type { return vector(2, i) }, func(i int) api.Type { return structure(i, i) }, func(i int) api.Type { return structure(slices.Repeat([]int{i}, 64)...) }, func(i int) api.Type { return structure(0, i, i, 0) },
	} {
		s := schema(boolean())
		for i := range 63 {
			s.Types = append(s.Types, next(i))
		}
		for _, i := range []int{20, 21, 40, 63} {
			someIs(t, s, i, nil, nil, api.ErrMany)
		}
	}
	s := schema(boolean())
	for i := range 63 {
		s.Types = append(s.Types, list(1<<20, i))
	}
	someIs(t, s, 63, nil, []api.Node{seqNode(0)}, api.OK)
	someIs(t, s, 63, slices.Repeat([]int{1 << 20}, 64), nil, api.ErrMany)
	someIs(t, s, 63, slices.Repeat([]int{1<<20 - 1}, 64), nil, api.ErrMany)
	someAll(t, s, 63, slices.Repeat([]int{1}, 64))
	someAll(t, s, 63, slices.Repeat([]int{2}, 1<<20))
	someAll(t, s, 18, slices.Repeat([]int{2}, 1<<20))
	someAll(t, s, 20, slices.Repeat([]int{2}, 1<<21))
}

// P11.4: schemas and picks that look like chance.
func TestSomeChance(t *testing.T) {
	d := dice(52)
	for n := range 1500 {
		s := chance(&d, 1+n%35, 1+n%9)
		someAll(t, s, d.below(len(s.Types)), d.picks(d.below(60)))
	}
}

// leading: picks that lead to a value, by the words of P11.4; where a node may have several, one that looks like chance.
func leading(d *dice, s api.Schema, i int, v []api.Node) []int {
	numbers, _ := answers(s, i, v)
	var out []int
	for at, n := range v {
		t := s.Types[numbers[at]]
		pick, modulo := n.N, uint64(0)
		switch t.Kind {
		case api.KindUint:
			modulo = uint64(1) << (8 * t.N)
		case api.KindBool:
			modulo = 2
		case api.KindList:
			pick, modulo = uint64(n.Kids), uint64(t.N+1)
		case api.KindOption:
			pick, modulo = uint64(n.Kids), 2
		case api.KindUnion:
			for k, p := range t.Parts {
				if uint64(p.Tag) == n.N {
					pick, modulo = uint64(k), uint64(len(t.Parts))
				}
			}
		case api.KindVector, api.KindStruct:
			pick = d.number(64)
		}
		// Of what lies below 2^64 any that leaves the same rest.
		if modulo > 0 && d.below(3) > 0 {
			pick += modulo * min(d.number(64), (math.MaxUint64-pick)/modulo)
		}
		out = append(out, int(pick))
	}
	return out
}

// P11.5: for every value of a type there are picks that lead to it.
func TestPicksLeadToAny(t *testing.T) {
	d := dice(61)
	asked := 0
	for n := range 500 {
		s := chance(&d, 1+n%40, 1+n%6)
		for range 4 {
			i := d.below(len(s.Types))
			v := valueOf(&d, s, i, 400)
			if v == nil {
				continue
			}
			asked++
			picks := leading(&d, s, i, v)
			someIs(t, s, i, picks, v, api.OK)
			someIs(t, s, i, append(picks, d.picks(3)...), v, api.OK)
		}
	}
	if asked < 1000 {
		t.Errorf("only %d values were asked for", asked)
	}
}

// P11.5: picks lead to the greatest and to the least of each kind, and to values of as many nodes as may be.
func TestPicksLeadToEdges(t *testing.T) {
	d := dice(62)
	s := schema(append(leaves(), list(1<<20, 5), list(1<<20, 4), vector(1<<20-1, 3), option(12), union(4, 13, 5), union(make([]int, 64)...))...)
	wide := append([]api.Node{seqNode(1<<20 - 1)}, slices.Repeat([]api.Node{uintNode(1<<64 - 1)}, 1<<20-1)...)
	for of, values := range map[int][][]api.Node{
		0: {{uintNode(0)}, {uintNode(255)}}, 1: {{uintNode(65535)}}, 2: {{uintNode(1<<32 - 1)}}, 3: {{uintNode(1<<64 - 1)}, {uintNode(1 << 63)}, {uintNode(1<<63 - 1)}}, 4: {{boolNode(0)}, {boolNode(1)}}, 5: {{uintNode(0)}, {uintNode(1 << 63)}, {uintNode(1<<64 - 1)}},
		7: {{seqNode(0)}, {seqNode(3), uintNode(1), uintNode(2), uintNode(65535)}}, 8: {{optionNode(0)}, {optionNode(1), uintNode(1<<64 - 1)}}, 9: {{unionNode(200), uintNode(255)}, {unionNode(199), uintNode(1<<64 - 1)}},
		12: {{seqNode(0)}, wide}, 14: {wide}, 15: {append([]api.Node{optionNode(1), seqNode(1<<20 - 2)}, wide[2:]...)}, 16: {append([]api.Node{unionNode(199), seqNode(1<<20 - 2)}, slices.Repeat([]api.Node{boolNode(1)}, 1<<20-2)...)}, 17: {{unionNode(200), uintNode(1)}, {unionNode(137), uintNode(1)}},
	} {
		for _, v := range values {
			someIs(t, s, of, leading(&d, s, of, v), v, api.OK)
		}
	}
}

// P11.5: of types that have few values, all picks that are small lead to all of them, and to nothing else.
func TestPicksLeadToAll(t *testing.T) {
	for _, c := range []struct {
		of            string
		values, nodes int
	}{
		{"bool", 2, 1}, {"option<bool>", 3, 2}, {"option<option<bool>>", 4, 3}, {"list<bool,2>", 7, 3}, {"list<option<bool>,2>", 1 + 3 + 9, 5}, {"vector<bool,3>", 8, 4}, {"union{9:bool,2:option<bool>,1:bool}", 7, 3}, {"struct{a:bool,b:option<bool>}", 6, 4}, {"list<list<bool,1>,2>", 1 + 3 + 9, 5}, {"union{1:union{2:bool,3:bool},0:bool}", 6, 3}, {"u8", 256, 1},
	} {
		s, last := built(t, "type a="+c.of+";")
		below := 6
		if c.of == "u8" {
			below = 300
		}
		found := map[string]int{}
		picks := make([]int, c.nodes)
		for {
			v, e := someAll(t, s, last, picks)
			text, g := value.Print(v)
			if e != api.OK || g != api.OK {
				t.Fatalf("P11.4: Some(%s, %v) = %s, %d", c.of, picks, brief(v), e)
			}
			found[text]++
			at := 0
			for at < len(picks) && picks[at] == below-1 {
				picks[at] = 0
				at++
			}
			if at == len(picks) {
				break
			}
			picks[at]++
		}
		if len(found) != c.values {
			t.Errorf("P11.5: picks lead to %d values of %s, there are %d: %v", len(found), c.of, c.values, found)
		}
	}
}
