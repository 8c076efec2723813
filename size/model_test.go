package size_test

import (
	"fmt"
	"math"
	"math/big"
	"slices"
	"strconv"
	"testing"

	"mortise/api"
	"mortise/size"
	"mortise/syntax"
	"mortise/types"
	"mortise/value"
)

func uN(bytes int) api.Type { return api.Type{Kind: api.KindUint, N: bytes} }

func boolean() api.Type { return api.Type{Kind: api.KindBool} }

func number() api.Type { return api.Type{Kind: api.KindVarint} }

func vector(n, of int) api.Type { return api.Type{Kind: api.KindVector, N: n, Elem: of} }

func list(n, of int) api.Type { return api.Type{Kind: api.KindList, N: n, Elem: of} }

func option(of int) api.Type { return api.Type{Kind: api.KindOption, Elem: of} }

// structure: a struct of fields f0, f1, .. of these types.
func structure(of ...int) api.Type {
	out := api.Type{Kind: api.KindStruct}
	for i, t := range of {
		out.Parts = append(out.Parts, api.Part{Label: "f" + strconv.Itoa(i), Type: t})
	}
	return out
}

// union: of arms 200, 199, .. of these types.
func union(of ...int) api.Type {
	out := api.Type{Kind: api.KindUnion}
	for i, t := range of {
		out.Parts = append(out.Parts, api.Part{Tag: 200 - i, Type: t})
	}
	return out
}

func schema(l ...api.Type) api.Schema { return api.Schema{Types: l} }

func fixed(n, depth int) api.Extent {
	return api.Extent{Fixed: true, Least: n, Most: n, Depth: depth}
}

func variable(least, most, depth int) api.Extent {
	return api.Extent{Least: least, Most: most, Depth: depth}
}

// built: the schema of a text that is a good one, and the number of its last root's type.
func built(t *testing.T, text string) (api.Schema, int) {
	t.Helper()
	source, f := syntax.Parse(text)
	if f.Err != api.OK {
		t.Fatalf("P6.2: Parse(%.200q) = %v", text, f)
	}
	s, f := types.Build(source)
	if f.Err != api.OK {
		t.Fatalf("P9.2: Build of %.200q: %v", text, f)
	}
	return s, s.Roots[len(s.Roots)-1].Type
}

// nodes: of the text of a value.
func nodes(t *testing.T, text string) []api.Node {
	t.Helper()
	v, f := value.Parse(text)
	if f.Err != api.OK {
		t.Fatalf("P4.6: Parse(%.200q) = %v", text, f)
	}
	return v
}

// brief: what is to be told, not too long to be read.
func brief(x any) string { return fmt.Sprintf("%.400s", fmt.Sprintf("%+v", x)) }

// exact: a type's extent, its sizes not bounded.
type exact struct {
	fixed       bool
	least, most *big.Int
	depth       int
}

// model: reckons extents by the chapter's table, down from the type that is asked for, in numbers of any greatness.
type model struct {
	types []api.Type
	known map[int]exact
}

func (m model) of(i int) exact {
	x, there := m.known[i]
	if !there {
		x = m.reckon(m.types[i])
		m.known[i] = x
	}
	return x
}

// inside: what is known of the types that a type is made of.
func (m model) inside(t api.Type) []exact {
	var out []exact
	if t.Kind == api.KindVector || t.Kind == api.KindList || t.Kind == api.KindOption {
		out = append(out, m.of(t.Elem))
	}
	for _, p := range t.Parts {
		out = append(out, m.of(p.Type))
	}
	return out
}

func (m model) reckon(t api.Type) exact {
	num := func(n int) *big.Int { return big.NewInt(int64(n)) }
	plus := func(a, b *big.Int) *big.Int { return new(big.Int).Add(a, b) }
	times := func(a, b *big.Int) *big.Int { return new(big.Int).Mul(a, b) }
	in := m.inside(t)
	out := exact{least: num(0), most: num(0), depth: 1}
	for _, x := range in {
		out.depth = max(out.depth, 1+x.depth)
	}
	switch t.Kind {
	case api.KindUint:
		return exact{true, num(t.N), num(t.N), 1}
	case api.KindBool:
		return exact{true, num(1), num(1), 1}
	case api.KindVarint:
		return exact{false, num(1), num(10), 1}
	case api.KindVector:
		out.fixed = in[0].fixed
		out.least, out.most = times(num(t.N), in[0].least), times(num(t.N), in[0].most)
		if !out.fixed {
			out.least, out.most = plus(out.least, num(4*t.N)), plus(out.most, num(4*t.N))
		}
	case api.KindList:
		out.most = times(num(t.N), in[0].most)
		if !in[0].fixed {
			out.most = plus(out.most, num(4*t.N))
		}
	case api.KindOption:
		out.least, out.most = num(1), plus(in[0].most, num(1))
	case api.KindUnion:
		lowest := slices.MinFunc(in, func(a, b exact) int { return a.least.Cmp(b.least) })
		highest := slices.MaxFunc(in, func(a, b exact) int { return a.most.Cmp(b.most) })
		out.least, out.most = plus(lowest.least, num(1)), plus(highest.most, num(1))
	case api.KindStruct:
		out.fixed = true
		for _, x := range in {
			out.least, out.most = plus(out.least, x.least), plus(out.most, x.most)
			if !x.fixed {
				out.fixed = false
				out.least, out.most = plus(out.least, num(4)), plus(out.most, num(4))
			}
		}
	}
	return out
}

// extentsOf: what Of is to answer to a schema that is one.
func extentsOf(s api.Schema) []api.Extent {
	m := model{s.Types, map[int]exact{}}
	bounded := func(n *big.Int) int {
		if n.Cmp(big.NewInt(1<<62)) > 0 {
			return 1 << 62
		}
		return int(n.Int64())
	}
	var out []api.Extent
	for i := range s.Types {
		x := m.of(i)
		out = append(out, api.Extent{Fixed: x.fixed, Least: bounded(x.least), Most: bounded(x.most), Depth: x.depth})
	}
	return out
}

// fixedOnes: DOC.md's words: which types are fixed.
func fixedOnes(s api.Schema) []bool {
	var out []bool
	for _, t := range s.Types {
		is := t.Kind == api.KindUint || t.Kind == api.KindBool
		if t.Kind == api.KindVector {
			is = out[t.Elem]
		}
		if t.Kind == api.KindStruct {
			is = !slices.ContainsFunc(t.Parts, func(p api.Part) bool { return !out[p.Type] })
		}
		out = append(out, is)
	}
	return out
}

// armOf: the type of a union's arm with that tag; -1, if there is none.
func armOf(t api.Type, tag uint64) int {
	for _, p := range t.Parts {
		if strconv.Itoa(p.Tag) == strconv.FormatUint(tag, 10) {
			return p.Type
		}
	}
	return -1
}

// kidTypes: chapter 11's types of a node's kids, the node being one that fits.
func kidTypes(t api.Type, n api.Node) []int {
	var out []int
	for k := range n.Kids {
		switch t.Kind {
		case api.KindUnion:
			out = append(out, armOf(t, n.N))
		case api.KindStruct:
			out = append(out, t.Parts[k].Type)
		default:
			out = append(out, t.Elem)
		}
	}
	return out
}

// misfit: chapter 11's words: why a node doesn't fit a type.
func misfit(t api.Type, n api.Node) api.Errno {
	kinds := map[int]int{api.KindUint: api.NodeUint, api.KindVarint: api.NodeUint, api.KindBool: api.NodeBool, api.KindVector: api.NodeSeq, api.KindList: api.NodeSeq, api.KindOption: api.NodeOption, api.KindUnion: api.NodeUnion, api.KindStruct: api.NodeStruct}
	switch {
	case n.Kind != kinds[t.Kind]:
		return api.ErrKind
	case t.Kind == api.KindUint && new(big.Int).SetUint64(n.N).BitLen() > 8*t.N:
		return api.ErrValue
	case t.Kind == api.KindVector && n.Kids != t.N, t.Kind == api.KindList && n.Kids > t.N, t.Kind == api.KindStruct && n.Kids != len(t.Parts):
		return api.ErrItems
	case t.Kind == api.KindUnion && armOf(t, n.N) < 0:
		return api.ErrArm
	}
	return api.OK
}

// isOf: is a list of nodes a value of a type, by the words of chapters 4 and 11?
func isOf(s api.Schema, i int, v []api.Node) bool {
	if value.Check(v).Err != api.OK {
		return false
	}
	open := []int{i}
	for _, n := range v {
		t := s.Types[open[len(open)-1]]
		if misfit(t, n) != api.OK {
			return false
		}
		kids := kidTypes(t, n)
		slices.Reverse(kids)
		open = append(open[:len(open)-1], kids...)
	}
	return true
}

// coder: DOC.md's relation, for lists that are values of their type.
type coder struct {
	types   []api.Type
	fixed   []bool
	lengths []int // each node's number of bytes, in their order
}

// encode: the bytes of the value that a list begins with, and the nodes behind it.
func (c *coder) encode(i int, v []api.Node) (b []byte, rest []api.Node) {
	t, n := c.types[i], v[0]
	at := len(c.lengths)
	c.lengths = append(c.lengths, 0)
	rest = v[1:]
	var parts [][]byte
	kids := kidTypes(t, n)
	for _, kid := range kids {
		var part []byte
		part, rest = c.encode(kid, rest)
		parts = append(parts, part)
	}
	switch t.Kind {
	case api.KindUint:
		for k := range t.N {
			b = append(b, byte(n.N>>(8*k)))
		}
	case api.KindBool:
		b = []byte{byte(n.N)}
	case api.KindVarint:
		left := n.N
		for ; left > 127; left /= 128 {
			b = append(b, byte(128+left%128))
		}
		b = append(b, byte(left))
	case api.KindOption:
		b = append([]byte{byte(n.Kids)}, slices.Concat(parts...)...)
	case api.KindUnion:
		b = append([]byte{byte(n.N)}, parts[0]...)
	default:
		b = c.row(kids, parts)
	}
	c.lengths[at] = len(b)
	return b, rest
}

// row: the parts of a vector, list or struct: the fixed ones and offsets, then the variable ones.
func (c *coder) row(kids []int, parts [][]byte) []byte {
	var front, back []byte
	where := 0
	for k, kid := range kids {
		if c.fixed[kid] {
			where += len(parts[k])
		} else {
			where += 4
		}
	}
	for k, kid := range kids {
		if c.fixed[kid] {
			front = append(front, parts[k]...)
			continue
		}
		o := where + len(back)
		front = append(front, byte(o), byte(o>>8), byte(o>>16), byte(o>>24))
		back = append(back, parts[k]...)
	}
	return append(front, back...)
}

// answers: what the calls are to answer to a schema, a type's number and nodes.
func answers(s api.Schema, i int, v []api.Node) ([]int, api.Errno) {
	if f := types.Check(s); f.Err != api.OK {
		return nil, f.Err
	}
	if i < 0 || i >= len(s.Types) {
		return nil, api.ErrPlace
	}
	if !isOf(s, i, v) {
		return nil, api.ErrNode
	}
	c := coder{types: s.Types, fixed: fixedOnes(s)}
	c.encode(i, v)
	return c.lengths, api.OK
}

// ofIs tells where Of's answer is another one than said.
func ofIs(t *testing.T, s api.Schema, want []api.Extent, e api.Errno) {
	t.Helper()
	got, g := size.Of(s)
	if g != e || !slices.Equal(got, want) {
		t.Errorf("P10.2: Of(%s) = %s, %d, want %s, %d", brief(s), brief(got), g, brief(want), e)
	}
	if g != api.OK && got != nil {
		t.Errorf("P10.1: Of(%s): error %d, and beside it %s", brief(s), g, brief(got))
	}
}

// ofAll holds Of against the model, and what it answers against P10.5.
func ofAll(t *testing.T, s api.Schema) []api.Extent {
	t.Helper()
	if f := types.Check(s); f.Err != api.OK {
		ofIs(t, s, nil, f.Err)
		return nil
	}
	want := extentsOf(s)
	ofIs(t, s, want, api.OK)
	got, _ := size.Of(s)
	for i, x := range got {
		if x.Least < 0 || x.Least > x.Most || x.Most > 1<<62 || x.Fixed && x.Least != x.Most {
			t.Errorf("P10.5: type %d of %s: %+v", i, brief(s), x)
		}
	}
	return got
}

// lengthsAre tells where the answer of Lengths or Length is another one than said.
func lengthsAre(t *testing.T, s api.Schema, i int, v []api.Node, want []int, e api.Errno) {
	t.Helper()
	got, g := size.Lengths(s, i, v)
	if g != e || !slices.Equal(got, want) {
		t.Errorf("P10.3: Lengths(%s, %d, %s) = %s, %d, want %s, %d", brief(s), i, brief(v), brief(got), g, brief(want), e)
	}
	if g != api.OK && got != nil {
		t.Errorf("P10.1: Lengths(%s, %d, %s): error %d, and beside it %s", brief(s), i, brief(v), g, brief(got))
	}
	first := 0
	if len(want) > 0 {
		first = want[0]
	}
	if n, g := size.Length(s, i, v); n != first || g != e {
		t.Errorf("P10.3: Length(%s, %d, %s) = %d, %d, want %d, %d", brief(s), i, brief(v), n, g, first, e)
	}
}

// lengthsAll holds Lengths and Length against the model.
func lengthsAll(t *testing.T, s api.Schema, i int, v []api.Node) api.Errno {
	t.Helper()
	want, e := answers(s, i, v)
	lengthsAre(t, s, i, v, want, e)
	return e
}

// strangeNumbers: at all edges, negative and very great ones.
func strangeNumbers() []int {
	return []int{math.MinInt, math.MinInt + 1, -1 << 32, -1 << 31, -8, -1, 0, 1, 2, 3, 4, 5, 6, 7, 8, 9, 16, 63, 64, 65, 255, 256, 1<<20 - 1, 1 << 20, 1<<20 + 1, 1<<31 - 1, 1 << 31, 1<<32 + 1, 1<<62 - 1, 1 << 62, math.MaxInt - 1, math.MaxInt}
}

// strangeNodes: each kind, and what is none, with each N and Kids at the edges.
func strangeNodes() []api.Node {
	var out []api.Node
	for _, kind := range []int{math.MinInt, -1, 0, api.NodeUint, api.NodeBool, api.NodeSeq, api.NodeStruct, api.NodeOption, api.NodeUnion, 7, math.MaxInt} {
		for _, n := range []uint64{0, 1, 2, 3, 127, 128, 198, 199, 200, 255, 256, 1<<8 + 200, 1<<16 - 1, 1 << 16, 1<<32 - 1, 1 << 32, 1<<32 + 200, 1<<63 + 200, 1<<64 - 1} {
			for _, kids := range []int{math.MinInt, -1, 0, 1, 2, 3, 4, 64, 65, 1 << 20, 1<<20 + 1, math.MaxInt} {
				out = append(out, api.Node{Kind: kind, N: n, Kids: kids})
			}
		}
	}
	return out
}

// turned: sets a field to each of these, and lets be called what looks; the field is then as before.
func turned[T any](field *T, to []T, look func()) {
	held := *field
	for _, x := range to {
		*field = x
		look()
	}
	*field = held
}

// changes: each field of each type, part and root of a schema is set otherwise, one by one.
func changes(s api.Schema, look func()) {
	n := append(strangeNumbers(), len(s.Types)-1, len(s.Types))
	texts := []string{"", "type", "f0", "f1", "z", "A"}
	for i := range s.Types {
		x := &s.Types[i]
		n := append(slices.Clone(n), i-1, i, i+1)
		for _, field := range []*int{&x.Kind, &x.N, &x.Elem} {
			turned(field, n, look)
		}
		turned(&x.Parts, [][]api.Part{nil, {}, {{}}, {{Label: "a"}}, {{Label: "a"}, {Label: "b"}}, {{Tag: 1}}, {{Tag: 1}, {Tag: 0}}}, look)
		for k := range x.Parts {
			turned(&x.Parts[k].Label, texts, look)
			turned(&x.Parts[k].Tag, n, look)
			turned(&x.Parts[k].Type, n, look)
		}
	}
	for i := range s.Roots {
		turned(&s.Roots[i].Name, texts, look)
		turned(&s.Roots[i].Type, n, look)
	}
}

// rearranged: all lists that come of one by leaving out, doubling, swapping and cutting off, and by one more.
func rearranged[T any](l []T, more ...T) [][]T {
	out := [][]T{nil}
	for i := range l {
		out = append(out, slices.Concat(l[:i], l[i+1:]), slices.Concat(l[:i+1], l[i:]), slices.Clone(l[:i]))
		if i+1 < len(l) {
			out = append(out, slices.Concat(l[:i], []T{l[i+1], l[i]}, l[i+2:]))
		}
	}
	for _, x := range more {
		out = append(out, append(slices.Clone(l), x), append([]T{x}, l...))
	}
	return out
}

// dice: numbers that look like chance, the same ones each time.
type dice uint64

func (d *dice) below(n int) int {
	*d = *d*6364136223846793005 + 1442695040888963407
	return int(uint64(*d)>>33) % n
}

// number: of any number of bits.
func (d *dice) number(bits int) uint64 {
	n := uint64(d.below(1<<30))<<40 ^ uint64(d.below(1<<30))<<20 ^ uint64(d.below(1<<30))
	return n & (1<<bits - 1) >> d.below(bits)
}

// chance: a schema of n types that looks like chance; vectors and lists have at most so many items.
func chance(d *dice, n, most int) api.Schema {
	var s api.Schema
	var depths []int
	for i := range n {
		kind := 1 + d.below(8)
		pick := func() int { return max(0, i-1-d.below(min(i, 6))) }
		if i == 0 {
			kind = 1 + d.below(3)
		}
		var made api.Type
		switch kind {
		case api.KindUint:
			made = uN(1 << d.below(4))
		case api.KindBool:
			made = boolean()
		case api.KindVarint:
			made = number()
		case api.KindVector:
			made = vector(1+d.below(most), pick())
		case api.KindList:
			made = list(1+d.below(most), pick())
		case api.KindOption:
			made = option(pick())
		default:
			var of []int
			for range 1 + d.below(4) {
				of = append(of, pick())
			}
			made = structure(of...)
			if kind == api.KindUnion {
				made = union(of...)
			}
		}
		depth := 0
		if made.Kind == api.KindVector || made.Kind == api.KindList || made.Kind == api.KindOption {
			depth = depths[made.Elem]
		}
		for _, p := range made.Parts {
			depth = max(depth, depths[p.Type])
		}
		if depth >= 60 {
			made, depth = number(), 0
		}
		s.Types = append(s.Types, made)
		depths = append(depths, depth+1)
	}
	return s
}

// some: a value of a type that looks like chance; nil, if it would have more than room nodes.
func some(d *dice, s api.Schema, i, room int) []api.Node {
	t := s.Types[i]
	n := api.Node{Kind: api.NodeUint}
	switch t.Kind {
	case api.KindUint:
		n.N = d.number(8 * t.N)
	case api.KindVarint:
		n.N = d.number(64)
	case api.KindBool:
		n = api.Node{Kind: api.NodeBool, N: uint64(d.below(2))}
	case api.KindVector:
		n = api.Node{Kind: api.NodeSeq, Kids: t.N}
	case api.KindList:
		n = api.Node{Kind: api.NodeSeq, Kids: d.below(t.N + 1)}
	case api.KindOption:
		n = api.Node{Kind: api.NodeOption, Kids: d.below(2)}
	case api.KindUnion:
		n = api.Node{Kind: api.NodeUnion, N: uint64(t.Parts[d.below(len(t.Parts))].Tag), Kids: 1}
	case api.KindStruct:
		n = api.Node{Kind: api.NodeStruct, Kids: len(t.Parts)}
	}
	return grown(t, n, room, func(kid, room int) []api.Node { return some(d, s, kid, room) })
}

// grown: a node and its kids, each made by a function; nil, if they would be more than room.
func grown(t api.Type, n api.Node, room int, kid func(kid, room int) []api.Node) []api.Node {
	if n.Kids >= room {
		return nil
	}
	out := []api.Node{n}
	for _, k := range kidTypes(t, n) {
		more := kid(k, room-len(out))
		if more == nil {
			return nil
		}
		out = append(out, more...)
	}
	return out
}

// edge: a value of the least length of a type, or of the greatest; nil, if it would have more than room nodes.
func edge(s api.Schema, extents []api.Extent, i, room int, greatest bool) []api.Node {
	t := s.Types[i]
	n := api.Node{Kind: api.NodeUint}
	pick := 0
	if greatest {
		pick = 1
	}
	switch t.Kind {
	case api.KindVarint:
		n.N = []uint64{127, 1 << 63}[pick]
	case api.KindBool:
		n.Kind = api.NodeBool
	case api.KindVector:
		n = api.Node{Kind: api.NodeSeq, Kids: t.N}
	case api.KindList:
		n = api.Node{Kind: api.NodeSeq, Kids: pick * t.N}
	case api.KindOption:
		n = api.Node{Kind: api.NodeOption, Kids: pick}
	case api.KindUnion:
		best := t.Parts[0]
		for _, p := range t.Parts {
			if a, b := extents[p.Type], extents[best.Type]; greatest && a.Most > b.Most || !greatest && a.Least < b.Least {
				best = p
			}
		}
		n = api.Node{Kind: api.NodeUnion, N: uint64(best.Tag), Kids: 1}
	case api.KindStruct:
		n = api.Node{Kind: api.NodeStruct, Kids: len(t.Parts)}
	}
	return grown(t, n, room, func(kid, room int) []api.Node { return edge(s, extents, kid, room, greatest) })
}
