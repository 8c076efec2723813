package typing_test

import (
	"fmt"
	"math"
	"math/big"
	"slices"
	"strconv"
	"testing"

	"mortise/api"
	"mortise/syntax"
	"mortise/types"
	"mortise/typing"
	"mortise/value"
)

func uN(bytes int) api.Type { return api.Type{Kind: api.KindUint, N: bytes} }

func boolean() api.Type { return api.Type{Kind: api.KindBool} }

func number() api.Type { return api.Type{Kind: api.KindVarint} }

func vector(n, of int) api.Type { return api.Type{Kind: api.KindVector, N: n, Elem: of} }

func list(n, of int) api.Type { return api.Type{Kind: api.KindList, N: n, Elem: of} }

func option(of int) api.Type { return api.Type{Kind: api.KindOption, Elem: of} }

// structure: a struct of fields f0, f1, .. of these types.
func structure(of ...int) api.Type {
	out := api.Type{Kind: api.KindStruct}
	for i, t := range of {
		out.Parts = append(out.Parts, api.Part{Label: "f" + strconv.Itoa(i), Type: t})
	}
	return out
}

// union: of arms 200, 199, .. of these types.
func union(of ...int) api.Type {
	out := api.Type{Kind: api.KindUnion}
	for i, t := range of {
		out.Parts = append(out.Parts, api.Part{Tag: 200 - i, Type: t})
	}
	return out
}

func schema(l ...api.Type) api.Schema { return api.Schema{Types: l} }

func uintNode(n uint64) api.Node { return api.Node{Kind: api.NodeUint, N: n} }

func boolNode(n uint64) api.Node { return api.Node{Kind: api.NodeBool, N: n} }

func seqNode(kids int) api.Node { return api.Node{Kind: api.NodeSeq, Kids: kids} }

func structNode(kids int) api.Node { return api.Node{Kind: api.NodeStruct, Kids: kids} }

func optionNode(kids int) api.Node { return api.Node{Kind: api.NodeOption, Kids: kids} }

func unionNode(tag uint64) api.Node { return api.Node{Kind: api.NodeUnion, N: tag, Kids: 1} }

func fault(e api.Errno, at int) api.Fault { return api.Fault{Err: e, At: at} }

// built: the schema of a text that is a good one, and the number of its last root's type.
func built(t *testing.T, text string) (api.Schema, int) {
	t.Helper()
	source, f := syntax.Parse(text)
	if f.Err != api.OK {
		t.Fatalf("P6.2: Parse(%.200q) = %v", text, f)
	}
	s, f := types.Build(source)
	if f.Err != api.OK {
		t.Fatalf("P9.2: Build of %.200q: %v", text, f)
	}
	return s, s.Roots[len(s.Roots)-1].Type
}

// nodes: of the text of a value.
func nodes(t *testing.T, text string) []api.Node {
	t.Helper()
	v, f := value.Parse(text)
	if f.Err != api.OK {
		t.Fatalf("P4.6: Parse(%.200q) = %v", text, f)
	}
	return v
}

// brief: what is to be told, not too long to be read. (Of a great list its first nodes alone are written.)
func brief(x any) string {
	if v, is := x.([]api.Node); is && len(v) > 40 {
		return fmt.Sprintf("%d nodes: %v ..", len(v), v[:40])
	}
	return fmt.Sprintf("%.400s", fmt.Sprintf("%+v", x))
}

// armOf: the type of a union's arm with that tag; -1, if there is none.
func armOf(t api.Type, tag uint64) int {
	for _, p := range t.Parts {
		if strconv.Itoa(p.Tag) == strconv.FormatUint(tag, 10) {
			return p.Type
		}
	}
	return -1
}

// kidType: the chapter's type of a node's kid number k, the node being one that fits.
func kidType(t api.Type, n api.Node, k int) int {
	switch t.Kind {
	case api.KindUnion:
		return armOf(t, n.N)
	case api.KindStruct:
		return t.Parts[k].Type
	}
	return t.Elem
}

// why: the chapter's words: why a node doesn't fit a type.
func why(t api.Type, n api.Node) api.Errno {
	kinds := map[int]int{api.KindUint: api.NodeUint, api.KindVarint: api.NodeUint, api.KindBool: api.NodeBool, api.KindVector: api.NodeSeq, api.KindList: api.NodeSeq, api.KindOption: api.NodeOption, api.KindUnion: api.NodeUnion, api.KindStruct: api.NodeStruct}
	switch {
	case n.Kind != kinds[t.Kind]:
		return api.ErrKind
	case t.Kind == api.KindUint && new(big.Int).SetUint64(n.N).BitLen() > 8*t.N:
		return api.ErrValue
	case t.Kind == api.KindVector && n.Kids != t.N, t.Kind == api.KindList && n.Kids > t.N, t.Kind == api.KindStruct && n.Kids != len(t.Parts):
		return api.ErrItems
	case t.Kind == api.KindUnion && armOf(t, n.N) < 0:
		return api.ErrArm
	}
	return api.OK
}

// model: holds a value against a type, down from its root, each node ahead of its kids.
type model struct {
	types   []api.Type
	nodes   []api.Node
	numbers []int // of the nodes that it has come to
}

func (m *model) down(i int) api.Fault {
	at := len(m.numbers)
	t, n := m.types[i], m.nodes[at]
	if e := why(t, n); e != api.OK {
		return fault(e, at)
	}
	m.numbers = append(m.numbers, i)
	for k := range n.Kids {
		if f := m.down(kidType(t, n, k)); f.Err != api.OK {
			return f
		}
	}
	return api.Fault{}
}

// ahead: the faults that go ahead of all that a value may have.
func ahead(s api.Schema, i int) api.Fault {
	if f := types.Check(s); f.Err != api.OK {
		return f
	}
	if i < 0 || i >= len(s.Types) {
		return fault(api.ErrPlace, 0)
	}
	return api.Fault{}
}

// answers: what Types is to answer, and beside it what Check is to.
func answers(s api.Schema, i int, v []api.Node) ([]int, api.Fault) {
	if f := ahead(s, i); f.Err != api.OK {
		return nil, f
	}
	if f := value.Check(v); f.Err != api.OK {
		return nil, f
	}
	m := model{types: s.Types, nodes: v}
	if f := m.down(i); f.Err != api.OK {
		return nil, f
	}
	return m.numbers, api.Fault{}
}

// are tells where the answer of Check or Types is another one than said.
func are(t *testing.T, s api.Schema, i int, v []api.Node, want []int, f api.Fault) {
	t.Helper()
	if g := typing.Check(s, i, v); g != f {
		t.Errorf("P11.2: Check(%s, %d, %s) = %v, want %v", brief(s), i, brief(v), g, f)
	}
	got, g := typing.Types(s, i, v)
	if g != f || !slices.Equal(got, want) {
		t.Errorf("P11.3: Types(%s, %d, %s) = %s, %v, want %s, %v", brief(s), i, brief(v), brief(got), g, brief(want), f)
	}
	if g.Err != api.OK && got != nil {
		t.Errorf("P11.1: Types(%s, %d, %s): %v, and beside it %s", brief(s), i, brief(v), g, brief(got))
	}
}

// faulty tells where Check, or Types, does not answer this fault.
func faulty(t *testing.T, s api.Schema, i int, v []api.Node, e api.Errno, at int) {
	t.Helper()
	are(t, s, i, v, nil, fault(e, at))
}

// all holds Check and Types against the model.
func all(t *testing.T, s api.Schema, i int, v []api.Node) api.Fault {
	t.Helper()
	want, f := answers(s, i, v)
	are(t, s, i, v, want, f)
	return f
}

// maker: makes a value by the words of P11.4, down from its root.
type maker struct {
	types []api.Type
	picks []int
	nodes []api.Node
}

// pick: the next pick modulo 2^64, and then modulo a number.
func (m *maker) pick(modulo *big.Int) uint64 {
	p := new(big.Int)
	if at := len(m.nodes); at < len(m.picks) {
		p.SetInt64(int64(m.picks[at]))
	}
	p.Mod(p, new(big.Int).Lsh(big.NewInt(1), 64))
	return p.Mod(p, modulo).Uint64()
}

// down: false, if there would be too many nodes.
func (m *maker) down(i int) bool {
	t := m.types[i]
	below := func(n int) uint64 { return m.pick(big.NewInt(int64(n))) }
	bytes := func(n int) uint64 { return m.pick(new(big.Int).Exp(big.NewInt(256), big.NewInt(int64(n)), nil)) }
	var n api.Node
	switch t.Kind {
	case api.KindUint:
		n = uintNode(bytes(t.N))
	case api.KindVarint:
		n = uintNode(bytes(8))
	case api.KindBool:
		n = boolNode(below(2))
	case api.KindVector:
		n = seqNode(t.N)
	case api.KindList:
		n = seqNode(int(below(t.N + 1)))
	case api.KindOption:
		n = optionNode(int(below(2)))
	case api.KindUnion:
		n = unionNode(uint64(t.Parts[below(len(t.Parts))].Tag))
	case api.KindStruct:
		n = structNode(len(t.Parts))
	}
	if len(m.nodes) == 1<<20 {
		return false
	}
	m.nodes = append(m.nodes, n)
	for k := range n.Kids {
		if !m.down(kidType(t, n, k)) {
			return false
		}
	}
	return true
}

// made: what Some is to answer.
func made(s api.Schema, i int, picks []int) ([]api.Node, api.Errno) {
	if f := ahead(s, i); f.Err != api.OK {
		return nil, f.Err
	}
	m := maker{types: s.Types, picks: picks}
	if !m.down(i) {
		return nil, api.ErrMany
	}
	return m.nodes, api.OK
}

// someIs tells where Some's answer is another one than said.
func someIs(t *testing.T, s api.Schema, i int, picks []int, want []api.Node, e api.Errno) {
	t.Helper()
	got, g := typing.Some(s, i, picks)
	if g != e || !slices.Equal(got, want) {
		t.Errorf("P11.4: Some(%s, %d, %s) = %s, %d, want %s, %d", brief(s), i, brief(picks), brief(got), g, brief(want), e)
	}
	if g != api.OK && got != nil {
		t.Errorf("P11.1: Some(%s, %d, %s): error %d, and beside it %s", brief(s), i, brief(picks), g, brief(got))
	}
	if f := typing.Check(s, i, got); g == api.OK && f != (api.Fault{}) {
		t.Errorf("P11.5: Some(%s, %d, %s) = %s, which is not of the type: %v", brief(s), i, brief(picks), brief(got), f)
	}
}

// someAll holds Some against the model.
func someAll(t *testing.T, s api.Schema, i int, picks []int) ([]api.Node, api.Errno) {
	t.Helper()
	want, e := made(s, i, picks)
	someIs(t, s, i, picks, want, e)
	return want, e
}

// strangeNumbers: at all edges, negative and very great ones.
func strangeNumbers() []int {
	return []int{math.MinInt, math.MinInt + 1, -1 << 32, -1 << 31, -8, -1, 0, 1, 2, 3, 4, 5, 6, 7, 8, 9, 16, 63, 64, 65, 255, 256, 1<<20 - 1, 1 << 20, 1<<20 + 1, 1<<31 - 1, 1 << 31, 1<<32 + 1, 1<<62 - 1, 1 << 62, math.MaxInt - 1, math.MaxInt}
}

// strangeNodes: each kind, and what is none, with each N and Kids at the edges.
func strangeNodes() []api.Node {
	var out []api.Node
	for _, kind := range []int{math.MinInt, -1, 0, api.NodeUint, api.NodeBool, api.NodeSeq, api.NodeStruct, api.NodeOption, api.NodeUnion, 7, math.MaxInt} {
		for _, n := range []uint64{0, 1, 2, 3, 127, 128, 198, 199, 200, 255, 256, 1<<8 + 200, 1<<16 - 1, 1 << 16, 1<<32 - 1, 1 << 32, 1<<32 + 200, 1<<63 + 200, 1<<64 - 1} {
			for _, kids := range []int{math.MinInt, -1, 0, 1, 2, 3, 4, 64, 65, 1 << 20, 1<<20 + 1, math.MaxInt} {
				out = append(out, api.Node{Kind: kind, N: n, Kids: kids})
			}
		}
	}
	return out
}

// turned: sets a field to each of these, and lets be called what looks; the field is then as before.
func turned[T any](field *T, to []T, look func()) {
	held := *field
	for _, x := range to {
		*field = x
		look()
	}
	*field = held
}

// changes: each field of each type, part and root of a schema is set otherwise, one by one.
func changes(s api.Schema, look func()) {
	n := append(strangeNumbers(), len(s.Types)-1, len(s.Types))
	texts := []string{"", "type", "f0", "f1", "z", "A"}
	for i := range s.Types {
		x := &s.Types[i]
		n := append(slices.Clone(n), i-1, i, i+1)
		for _, field := range []*int{&x.Kind, &x.N, &x.Elem} {
			turned(field, n, look)
		}
		turned(&x.Parts, [][]api.Part{nil, {}, {{}}, {{Label: "a"}}, {{Label: "a"}, {Label: "b"}}, {{Tag: 1}}, {{Tag: 1}, {Tag: 0}}}, look)
		for k := range x.Parts {
			turned(&x.Parts[k].Label, texts, look)
			turned(&x.Parts[k].Tag, n, look)
			turned(&x.Parts[k].Type, n, look)
		}
	}
	for i := range s.Roots {
		turned(&s.Roots[i].Name, texts, look)
		turned(&s.Roots[i].Type, n, look)
	}
}

// rearranged: all lists that come of one by leaving out, doubling, swapping and cutting off, and by one more.
func rearranged[T any](l []T, more ...T) [][]T {
	out := [][]T{nil}
	for i := range l {
		out = append(out, slices.Concat(l[:i], l[i+1:]), slices.Concat(l[:i+1], l[i:]), slices.Clone(l[:i]))
		if i+1 < len(l) {
			out = append(out, slices.Concat(l[:i], []T{l[i+1], l[i]}, l[i+2:]))
		}
	}
	for _, x := range more {
		out = append(out, append(slices.Clone(l), x), append([]T{x}, l...))
	}
	return out
}

// leaves: a type of each kind that is made of others, and of each that isn't, with numbers 0 to 11.
func leaves() []api.Type {
	return []api.Type{uN(1), uN(2), uN(4), uN(8), boolean(), number(), vector(3, 1), list(3, 1), option(3), union(0, 5), structure(0, 2), structure(0, 5)}
}

// tower: n types, each an option of the one ahead.
func tower(n int) []api.Type {
	out := []api.Type{boolean()}
	for i := range n - 1 {
		out = append(out, option(i))
	}
	return out
}

// refused: schemas that types.Check refuses, and its faults.
func refused() []struct {
	s api.Schema
	f api.Fault
} {
	root := func(names ...string) []api.Root {
		var out []api.Root
		for _, n := range names {
			out = append(out, api.Root{Name: n})
		}
		return out
	}
	many := []api.Root{}
	for i := range 257 {
		many = append(many, api.Root{Name: "r" + string(rune('a'+i/26)) + string(rune('a'+i%26))})
	}
	no := func(at int) api.Fault { return fault(api.ErrSchema, at) }
	return []struct {
		s api.Schema
		f api.Fault
	}{
		{schema(api.Type{}), no(0)}, {schema(option(0)), no(0)}, {schema(boolean(), list(0, 0)), no(1)}, {schema(boolean(), vector(1<<20+1, 0)), no(1)}, {schema(boolean(), list(-1, 0)), no(1)},
		{schema(uN(3)), no(0)}, {schema(uN(8), option(2)), no(1)}, {schema(uN(8), option(-1)), no(1)}, {schema(uN(8), structure()), no(1)}, {schema(uN(8), structure(0, 1)), no(1)},
		{schema(uN(8), structure(make([]int, 65)...)), no(1)}, {schema(uN(8), union(make([]int, 65)...)), no(1)}, {schema(uN(8), api.Type{Kind: api.KindName}), no(1)}, {schema(uN(8), api.Type{Kind: -1}), no(1)}, {schema(uN(8), boolean(), api.Type{Kind: math.MaxInt}), no(2)},
		{schema(tower(65)...), fault(api.ErrDeep, 64)}, {schema(append(tower(65), api.Type{})...), no(65)}, {api.Schema{Types: tower(65), Roots: root("")}, fault(api.ErrDeep, 64)},
		{api.Schema{Types: tower(64), Roots: root("")}, no(64)}, {api.Schema{Types: tower(1), Roots: root("a", "a")}, no(2)}, {api.Schema{Types: tower(1), Roots: []api.Root{{Name: "a", Type: 1}}}, no(1)}, {api.Schema{Roots: root("a")}, no(0)}, {api.Schema{Types: tower(1), Roots: many}, no(257)},
	}
}

// dice: numbers that look like chance, the same ones each time.
type dice uint64

func (d *dice) below(n int) int {
	*d = *d*6364136223846793005 + 1442695040888963407
	return int(uint64(*d)>>33) % n
}

// number: of any number of bits.
func (d *dice) number(bits int) uint64 {
	n := uint64(d.below(1<<30))<<40 ^ uint64(d.below(1<<30))<<20 ^ uint64(d.below(1<<30))
	return n & (1<<bits - 1) >> d.below(bits)
}

// picks: so many numbers, most of them small.
func (d *dice) picks(n int) []int {
	out := make([]int, n)
	for i := range out {
		out[i] = int(d.number(64)) * (1 - 2*d.below(2))
		if d.below(3) > 0 {
			out[i] = d.below(9) - 4
		}
	}
	return out
}

// chance: a schema of n types that looks like chance; vectors and lists have at most so many items.
func chance(d *dice, n, most int) api.Schema {
	var s api.Schema
	var depths []int
	for i := range n {
		kind := 1 + d.below(8)
		pick := func() int { return max(0, i-1-d.below(min(i, 6))) }
		if i == 0 {
			kind = 1 + d.below(3)
		}
		var made api.Type
		switch kind {
		case api.KindUint:
			made = uN(1 << d.below(4))
		case api.KindBool:
			made = boolean()
		case api.KindVarint:
			made = number()
		case api.KindVector:
			made = vector(1+d.below(most), pick())
		case api.KindList:
			made = list(1+d.below(most), pick())
		case api.KindOption:
			made = option(pick())
		default:
			var of []int
			for range 1 + d.below(4) {
				of = append(of, pick())
			}
			made = structure(of...)
			if kind == api.KindUnion {
				made = union(of...)
			}
		}
		depth := 0
		if made.Kind == api.KindVector || made.Kind == api.KindList || made.Kind == api.KindOption {
			depth = depths[made.Elem]
		}
		for _, p := range made.Parts {
			depth = max(depth, depths[p.Type])
		}
		if depth >= 60 {
			made, depth = number(), 0
		}
		s.Types = append(s.Types, made)
		depths = append(depths, depth+1)
	}
	return s
}

// valueOf: a value of a type that looks like chance; nil, if it would have more than room nodes.
func valueOf(d *dice, s api.Schema, i, room int) []api.Node {
	t := s.Types[i]
	var n api.Node
	switch t.Kind {
	case api.KindUint:
		n = uintNode(d.number(8 * t.N))
	case api.KindVarint:
		n = uintNode(d.number(64))
	case api.KindBool:
		n = boolNode(uint64(d.below(2)))
	case api.KindVector:
		n = seqNode(t.N)
	case api.KindList:
		n = seqNode(d.below(t.N + 1))
	case api.KindOption:
		n = optionNode(d.below(2))
	case api.KindUnion:
		n = unionNode(uint64(t.Parts[d.below(len(t.Parts))].Tag))
	case api.KindStruct:
		n = structNode(len(t.Parts))
	}
	if n.Kids >= room {
		return nil
	}
	out := []api.Node{n}
	for k := range n.Kids {
		more := valueOf(d, s, kidType(t, n, k), room-len(out))
		if more == nil {
			return nil
		}
		out = append(out, more...)
	}
	return out
}

// anyValue: a value that looks like chance, of no type that is asked for, so many nodes deep at most.
func anyValue(d *dice, deep int) []api.Node {
	kids := 0
	if deep > 1 {
		kids = d.below(4)
	}
	n := []api.Node{uintNode(d.number(64)), boolNode(uint64(d.below(2))), seqNode(kids), optionNode(min(kids, 1)), structNode(kids), unionNode(uint64(195 + d.below(8)))}[d.below(6)]
	if n.Kind == api.NodeUnion && deep == 1 || n.Kind == api.NodeStruct && kids == 0 {
		n = uintNode(uint64(d.below(300)))
	}
	out := []api.Node{n}
	for range n.Kids {
		out = append(out, anyValue(d, deep-1)...)
	}
	return out
}

// kidsOf: the values of a node's kids, found by value's calls.
func kidsOf(t *testing.T, v []api.Node, at int) [][]api.Node {
	t.Helper()
	var out [][]api.Node
	for k := range v[at].Kids {
		from, e := value.Kid(v, at, k)
		to, g := value.Next(v, from)
		if e != api.OK || g != api.OK {
			t.Fatalf("P4.3: %s: kid %d of %d: %d, %d", brief(v), k, at, e, g)
		}
		out = append(out, v[from:to])
	}
	return out
}

// moreOrFewer: whole values that come of one: each node with a kid more, one of its own or another, or with its last kid left out.
func moreOrFewer(t *testing.T, v []api.Node) [][]api.Node {
	t.Helper()
	var out [][]api.Node
	for at := range v {
		end, _ := value.Next(v, at)
		kids := kidsOf(t, v, at)
		if len(kids) > 0 {
			last := len(kids[len(kids)-1])
			l := slices.Concat(v[:end-last], v[end:])
			l[at].Kids--
			out = append(out, l)
		}
		for _, kid := range append(kids, []api.Node{uintNode(1)}, []api.Node{boolNode(0)}, []api.Node{seqNode(0)}, []api.Node{optionNode(0)}) {
			l := slices.Concat(v[:end], kid, v[end:])
			l[at].Kids++
			out = append(out, l)
		}
	}
	return out
}

// spoilt holds Check and Types against the model at what comes of a right value: each node's fields set otherwise, nodes left out, doubled, swapped, cut off and laid beside, kids more and fewer.
func spoilt(t *testing.T, s api.Schema, i int, v []api.Node) {
	t.Helper()
	v = slices.Clone(v)
	look := func() { all(t, s, i, v) }
	for at := range v {
		n := &v[at]
		turned(&n.Kind, []int{math.MinInt, -1, 0, 1, 2, 3, 4, 5, 6, 7, 1<<32 + n.Kind, math.MaxInt}, look)
		turned(&n.Kids, append(strangeNumbers(), n.Kids-1, n.Kids+1), look)
		turned(&n.N, []uint64{0, 1, 2, 3, 127, 128, 200, 255, 256, 1<<16 - 1, 1 << 16, 1<<32 - 1, 1 << 32, 1 << 63, 1<<64 - 1, n.N + 256, n.N + 1<<32, n.N + 1<<63, n.N + 1}, look)
	}
	for _, l := range rearranged(v, api.Node{}, uintNode(0), boolNode(1), seqNode(0), optionNode(1)) {
		all(t, s, i, l)
	}
	for _, l := range moreOrFewer(t, v) {
		all(t, s, i, l)
	}
	for at := range v {
		all(t, s, i, v[at:])
		all(t, s, i, append(slices.Clone(v), v[at:]...))
	}
	replaced(t, s, i, v)
}

// replaced holds them against the model at the value with each node's value replaced by another one.
func replaced(t *testing.T, s api.Schema, i int, v []api.Node) {
	t.Helper()
	for at := range v {
		end, _ := value.Next(v, at)
		for _, other := range [][]api.Node{{uintNode(1)}, {uintNode(1 << 40)}, {boolNode(1)}, {seqNode(0)}, {seqNode(1), uintNode(1)}, {optionNode(0)}, {optionNode(1), boolNode(1)}, {structNode(1), uintNode(1)}, {unionNode(200), uintNode(1)}, {unionNode(7), boolNode(1)}} {
			all(t, s, i, slices.Concat(v[:at], other, v[end:]))
		}
	}
}
