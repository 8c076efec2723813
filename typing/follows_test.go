package typing_test

import (
	"math"
	"slices"
	"testing"
	"unsafe"

	"mortise/api"
	"mortise/typing"
	"mortise/value"
)

// values: right values and wrong ones that look like chance, for a type of a schema.
func values(t *testing.T, d *dice, s api.Schema, i int) [][]api.Node {
	t.Helper()
	out := [][]api.Node{anyValue(d, 3), anyValue(d, 5)}
	v := valueOf(d, s, i, 60)
	if v == nil {
		return out
	}
	out = append(out, v)
	for range 6 {
		at := d.below(len(v))
		end, e := value.Next(v, at)
		if e != api.OK {
			t.Fatalf("P4.3: Next(%s, %d): %d", brief(v), at, e)
		}
		out = append(out, slices.Concat(v[:at], anyValue(d, 3), v[end:]))
	}
	return out
}

// P11.6: a value is of a type just if its root's node fits and each kid's value is of the kid's type; so too at each node inside.
func TestKidByKid(t *testing.T) {
	d := dice(71)
	right, wrong := 0, 0
	for n := range 600 {
		s := chance(&d, 1+n%30, 4)
		i := d.below(len(s.Types))
		for _, v := range values(t, &d, s, i) {
			is := why(s.Types[i], v[0]) == api.OK
			if is {
				for k, kid := range kidsOf(t, v, 0) {
					is = is && typing.Check(s, kidType(s.Types[i], v[0], k), kid).Err == api.OK
				}
			}
			f := typing.Check(s, i, v)
			if is != (f.Err == api.OK) {
				t.Errorf("P11.6: Check(%s, %d, %s) = %v, by its kids %v", brief(s), i, brief(v), f, is)
			}
			if is {
				right++
			} else {
				wrong++
			}
			byKid(t, s, i, v, f)
		}
	}
	if right < 500 || wrong < 500 {
		t.Errorf("only %d right values, %d wrong ones", right, wrong)
	}
}

// byKid tells where the fault of a value whose root fits is not that of its first kid that has one.
func byKid(t *testing.T, s api.Schema, i int, v []api.Node, f api.Fault) {
	t.Helper()
	want := fault(why(s.Types[i], v[0]), 0)
	at := 1
	for k, kid := range kidsOf(t, v, 0) {
		if want.Err != api.OK {
			break
		}
		want = typing.Check(s, kidType(s.Types[i], v[0], k), kid)
		if want.Err != api.OK {
			want.At += at
		}
		at += len(kid)
	}
	if f != want {
		t.Errorf("P11.6: Check(%s, %d, %s) = %v, by its kids %v", brief(s), i, brief(v), f, want)
	}
}

// P11.7: a fault stays, however the nodes behind it are changed, as long as the list stays a value.
func TestOneNode(t *testing.T) {
	d := dice(72)
	asked := 0
	seen := map[api.Errno]int{}
	for n := range 900 {
		s := chance(&d, 1+n%30, 4)
		i := d.below(len(s.Types))
		for _, v := range values(t, &d, s, i) {
			f := typing.Check(s, i, v)
			if f.Err == api.OK {
				continue
			}
			seen[f.Err]++
			for range 4 {
				asked++
				other := goneOn(&d, v[:f.At+1])
				if c := value.Check(other); c.Err != api.OK {
					t.Fatalf("P4.2: %s is no value: %v", brief(other), c)
				}
				if g := typing.Check(s, i, other); g != f {
					t.Errorf("P11.7: Check(%s, %d, %s) = %v, and with other nodes behind the fault, %s, %v", brief(s), i, brief(v), f, brief(other), g)
				}
			}
		}
	}
	if asked < 5000 || len(seen) != 4 {
		t.Errorf("only %d values were asked for, with faults %v", asked, seen)
	}
}

// goneOn: a value that begins with these nodes, and goes on with any others.
func goneOn(d *dice, begin []api.Node) []api.Node {
	missing := 1
	for _, n := range begin {
		missing += n.Kids - 1
	}
	out := slices.Clone(begin)
	for range missing {
		out = append(out, anyValue(d, 1+d.below(4))...)
	}
	return out
}

// P11.7: written out: behind the node at fault anything may stand.
func TestOneNodeWritten(t *testing.T) {
	s := example(t)
	for _, text := range []string{"{256, [], <3:true>}", "{256, [1, 2, 3], <3:true>}", "{256, 7, none}", "{256, {256}, <4:9>}", "{256, true, true}"} {
		faulty(t, s, 6, nodes(t, text), api.ErrValue, 1)
	}
	for _, text := range []string{"{1, [1, 2, 3], <3:true>}", "{1, [true, 2, none], 7}", "{1, [[], [], []], [{1}]}"} {
		faulty(t, s, 6, nodes(t, text), api.ErrItems, 2)
	}
	for _, text := range []string{"{1, [], <4:true>}", "{1, [], <4:{1, 2}>}", "{1, [], <4:<4:none>>}"} {
		faulty(t, s, 6, nodes(t, text), api.ErrArm, 3)
	}
}

// P11.1: every call ends, and none panics, at schemas of which one field, the order or the number of types is another.
func TestAllSchemas(t *testing.T) {
	s := api.Schema{Types: append(leaves(), vector(1<<20, 11), list(1<<20, 9), option(13), union(14, 3), structure(15, 6)), Roots: []api.Root{{Name: "a", Type: 16}, {Name: "f0"}}}
	d := dice(41)
	values := [][]api.Node{nil, {{}}, {uintNode(7)}, {seqNode(math.MaxInt)}}
	for i := range s.Types {
		if v := valueOf(&d, s, i, 60); v != nil {
			values = append(values, v)
		}
	}
	turn := 0
	look := func() {
		for range 3 {
			turn++
			i := turn%(len(s.Types)+2) - 1
			all(t, s, i, values[turn%len(values)])
			if i < 12 {
				someAll(t, s, i, d.picks(turn%7))
			}
		}
	}
	changes(s, look)
	for _, l := range rearranged(s.Types, api.Type{}, boolean(), option(0), list(3, 5), option(len(s.Types)), option(len(s.Types)-1)) {
		turned(&s.Types, [][]api.Type{l}, look)
	}
	for _, l := range rearranged(s.Roots, api.Root{}, api.Root{Name: "b"}, api.Root{Name: "c", Type: -1}) {
		turned(&s.Roots, [][]api.Root{l}, look)
	}
}

// P11.1: all numbers, with right and wrong nodes and picks.
func TestAllNumbers(t *testing.T) {
	d := dice(42)
	for n := range 12 {
		s := chance(&d, n, 3)
		for _, i := range append(strangeNumbers(), n-1, n, n+1) {
			for _, v := range [][]api.Node{nil, {}, {uintNode(0)}, {boolNode(0)}, {seqNode(0)}, {{Kind: -1, N: 1 << 63, Kids: math.MinInt}}} {
				all(t, s, i, v)
			}
			someAll(t, s, i, strangeNumbers())
		}
	}
}

// P11.1: nodes that ask for many kids, or lie in one another deeper than any type, end the call at once.
func TestAllNodes(t *testing.T) {
	s := schema(tower(64)...)
	s.Types = append(s.Types, list(1<<20, 0), list(1<<20, 64), list(1<<20, 65), vector(1<<20, 66))
	for _, n := range []api.Node{optionNode(1), seqNode(1 << 20), seqNode(1), unionNode(0), structNode(64), seqNode(math.MaxInt)} {
		v := slices.Repeat([]api.Node{n}, 100000)
		at := len(v)
		if n.Kids == math.MaxInt {
			at = 0
		}
		for i := range s.Types {
			faulty(t, s, i, v, api.ErrNode, at)
		}
	}
	// A value of very many nodes, each in the one ahead: the first that no type holds is told.
	deep := append(slices.Repeat([]api.Node{optionNode(1)}, 100000), boolNode(1))
	for i := range 64 {
		faulty(t, s, i, deep, api.ErrKind, i)
	}
	deep = append(slices.Repeat([]api.Node{seqNode(1)}, 60000), seqNode(0))
	faulty(t, s, 66, deep, api.ErrKind, 3)
	faulty(t, s, 67, deep, api.ErrItems, 0)
}

// roomy: a copy with spare room in all its lists, and something in it that would be a fault.
func roomy(s api.Schema) api.Schema {
	out := api.Schema{Types: slices.Clip(slices.Clone(s.Types)), Roots: slices.Clip(slices.Clone(s.Roots))}
	out.Types = append(out.Types, api.Type{}, option(-1), uN(7))[:len(s.Types)]
	out.Roots = append(out.Roots, api.Root{Type: -1}, api.Root{Name: "a"})[:len(s.Roots)]
	for i := range out.Types {
		l := slices.Clip(slices.Clone(s.Types[i].Parts))
		out.Types[i].Parts = append(l, api.Part{Label: "?", Tag: -1, Type: -1}, api.Part{})[:len(l)]
	}
	return out
}

// held: all that the lists hold, spare room too.
func held(s api.Schema, v []api.Node, picks []int) (out []any) {
	for _, x := range s.Types[:cap(s.Types)] {
		out = append(out, x.Kind, x.N, x.Elem, len(x.Parts))
		for _, p := range x.Parts[:cap(x.Parts)] {
			out = append(out, p)
		}
	}
	for _, r := range s.Roots[:cap(s.Roots)] {
		out = append(out, r)
	}
	for _, n := range v[:cap(v)] {
		out = append(out, n)
	}
	for _, p := range picks[:cap(picks)] {
		out = append(out, p)
	}
	return out
}

// P11.1: what is handed in is not changed, spare room too, and spare room is not looked at.
func TestChangesNothing(t *testing.T) {
	d := dice(43)
	for n := range 400 {
		s := chance(&d, 1+n%20, 3)
		if n%20 == 0 {
			s = refused()[n/20].s
		}
		i := len(s.Types) - 1
		v := []api.Node{uintNode(1 << 20)}
		if n%20 != 0 {
			v = append(v[:0], valueOf(&d, s, i, 100)...)
		}
		if n%3 == 0 {
			v = anyValue(&d, 4)
		}
		p := d.picks(n % 9)
		a, b, c := roomy(s), append(slices.Clip(slices.Clone(v)), api.Node{Kind: 9, Kids: -1}, boolNode(0))[:len(v)], append(slices.Clip(slices.Clone(p)), 7, 8, 9)[:len(p)]
		before := held(a, b, c)
		want, f := answers(s, i, v)
		are(t, a, i, b, want, f)
		all(t, a, -1, b)
		all(t, a, 0, b)
		made, e := made(s, i, p)
		someIs(t, a, i, c, made, e)
		someAll(t, a, len(s.Types), c)
		if !slices.Equal(before, held(a, b, c)) {
			t.Errorf("P11.1: %s, %s, %v: what is handed in is changed", brief(s), brief(v), p)
		}
	}
}

// P11.1: what is answered is new memory, spare room too: it may be written over, and no other answer shows it, nor what was handed in.
func TestNewMemory(t *testing.T) {
	d := dice(44)
	for n := range 200 {
		s := chance(&d, 1+n%20, 3)
		i := len(s.Types) - 1
		v := valueOf(&d, s, i, 200)
		if v == nil {
			continue
		}
		want, _ := answers(s, i, v)
		one, _ := typing.Types(s, i, v)
		two, _ := typing.Types(s, i, v)
		for k := range one[:cap(one)] {
			one[:cap(one)][k] = -7
		}
		if !slices.Equal(two, want) {
			t.Errorf("P11.1: %s: two answers of Types share memory", brief(v))
		}
		are(t, s, i, v, want, api.Fault{})
		picks := leading(&d, s, i, v)
		before := held(s, v, picks)
		first, _ := typing.Some(s, i, picks)
		second, _ := typing.Some(s, i, picks)
		for k := range first[:cap(first)] {
			first[:cap(first)][k] = api.Node{Kind: -7, Kids: -7}
		}
		if !slices.Equal(second, v) {
			t.Errorf("P11.1: %s: two answers of Some share memory", brief(v))
		}
		someIs(t, s, i, picks, v, api.OK)
		if !slices.Equal(before, held(s, v, picks)) {
			t.Errorf("P11.1: %s: an answer shares memory with what was handed in", brief(v))
		}
	}
}

// P11.1: nothing is kept: each call looks at what it is handed now, and an answer stays as it was.
func TestLooksAgain(t *testing.T) {
	bytes := []byte("f0")
	s := schema(uN(1), number(), list(3, 1), structure(0, 2))
	s.Types[3].Parts[1].Label = unsafe.String(&bytes[0], 2)
	bytes[1] = '1'
	v := nodes(t, "{7, [5, 300]}")
	picks := []int{0, 7, 2, 5, 300}
	numbers, _ := typing.Types(s, 3, v)
	made, _ := typing.Some(s, 3, picks)
	are(t, s, 3, v, []int{3, 0, 2, 1, 1}, api.Fault{})
	bytes[1] = '0'
	faulty(t, s, 3, v, api.ErrSchema, 3)
	someIs(t, s, 3, picks, nil, api.ErrSchema)
	bytes[1] = '2'
	s.Types[1] = uN(1)
	faulty(t, s, 3, v, api.ErrValue, 4)
	someIs(t, s, 3, picks, nodes(t, "{7, [5, 44]}"), api.OK)
	v[4].N = 44
	are(t, s, 3, v, []int{3, 0, 2, 1, 1}, api.Fault{})
	s.Types[2].N = 1
	faulty(t, s, 3, v, api.ErrItems, 2)
	someIs(t, s, 3, picks, nodes(t, "{7, []}"), api.OK)
	picks[2] = 1
	someIs(t, s, 3, picks, nodes(t, "{7, [5]}"), api.OK)
	s.Types[3].Parts[0].Type = 1
	s.Types[2].N = 2
	are(t, s, 3, v, []int{3, 1, 2, 1, 1}, api.Fault{})
	if !slices.Equal(numbers, []int{3, 0, 2, 1, 1}) || !slices.Equal(made, nodes(t, "{7, [5, 300]}")) {
		t.Errorf("P11.1: answers are changed by later calls: %v, %v", numbers, made)
	}
}

// P11.1: with an error the other answer is nothing, whatever was answered ahead.
func TestZeroBesideError(t *testing.T) {
	right := schema(boolean(), option(0), vector(1<<20, 0))
	v := []api.Node{optionNode(1), boolNode(1)}
	for _, c := range refused() {
		are(t, right, 1, v, []int{1, 0}, api.Fault{})
		someIs(t, right, 1, []int{1, 1}, v, api.OK)
		are(t, c.s, 1, v, nil, c.f)
		someIs(t, c.s, 1, []int{1, 1}, nil, c.f.Err)
		faulty(t, right, 3, v, api.ErrPlace, 0)
		someIs(t, right, 3, []int{1, 1}, nil, api.ErrPlace)
		faulty(t, right, 0, v, api.ErrKind, 0)
		faulty(t, right, 1, v[:1], api.ErrNode, 1)
		faulty(t, right, 1, []api.Node{optionNode(1), uintNode(1)}, api.ErrKind, 1)
		someIs(t, right, 2, []int{1, 1}, nil, api.ErrMany)
	}
}

// P11.2, P11.4: roots and the names of fields say nothing of values.
func TestRootsSayNothing(t *testing.T) {
	s, last := built(t, "type b=list<a,3>; type a=struct{x:u8,y:bool};")
	v := nodes(t, "{7, true}")
	are(t, s, last, v, []int{2, 0, 1}, api.Fault{})
	for _, roots := range [][]api.Root{nil, {{Name: "z"}}, {{Name: "z"}, {Name: "y"}, {Name: "x", Type: 3}}} {
		s.Roots = roots
		s.Types[2].Parts[0].Label = "q"
		are(t, s, last, v, []int{2, 0, 1}, api.Fault{})
		someIs(t, s, last, []int{0, 7, 1}, v, api.OK)
	}
}
