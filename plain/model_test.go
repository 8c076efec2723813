package plain_test

import (
	"bytes"
	"fmt"
	"math"
	"math/big"
	"slices"
	"strconv"
	"strings"
	"testing"

	"mortise/api"
	"mortise/plain"
	"mortise/size"
	"mortise/syntax"
	"mortise/types"
	"mortise/typing"
	"mortise/value"
)

func uN(bytes int) api.Type { return api.Type{Kind: api.KindUint, N: bytes} }

func boolean() api.Type { return api.Type{Kind: api.KindBool} }

func number() api.Type { return api.Type{Kind: api.KindVarint} }

func vector(n, of int) api.Type { return api.Type{Kind: api.KindVector, N: n, Elem: of} }

func list(n, of int) api.Type { return api.Type{Kind: api.KindList, N: n, Elem: of} }

func option(of int) api.Type { return api.Type{Kind: api.KindOption, Elem: of} }

// structure: a struct of fields f0, f1, .. of these types.
func structure(of ...int) api.Type {
	out := api.Type{Kind: api.KindStruct}
	for i, t := range of {
		out.Parts = append(out.Parts, api.Part{Label: "f" + strconv.Itoa(i), Type: t})
	}
	return out
}

// union: of arms 200, 199, .. of these types.
func union(of ...int) api.Type {
	out := api.Type{Kind: api.KindUnion}
	for i, t := range of {
		out.Parts = append(out.Parts, api.Part{Tag: 200 - i, Type: t})
	}
	return out
}

func schema(l ...api.Type) api.Schema { return api.Schema{Types: l} }

func uintNode(n uint64) api.Node { return api.Node{Kind: api.NodeUint, N: n} }

func boolNode(n uint64) api.Node { return api.Node{Kind: api.NodeBool, N: n} }

func seqNode(kids int) api.Node { return api.Node{Kind: api.NodeSeq, Kids: kids} }

func structNode(kids int) api.Node { return api.Node{Kind: api.NodeStruct, Kids: kids} }

func optionNode(kids int) api.Node { return api.Node{Kind: api.NodeOption, Kids: kids} }

func unionNode(tag uint64) api.Node { return api.Node{Kind: api.NodeUnion, N: tag, Kids: 1} }

func fault(e api.Errno, at int) api.Fault { return api.Fault{Err: e, At: at} }

// built: the schema of a type's text, and the type's number.
func built(t *testing.T, text string) (api.Schema, int) {
	t.Helper()
	source, f := syntax.Parse("type a=" + text + ";")
	if f.Err != api.OK {
		t.Fatalf("P6.2: Parse(%.200q) = %v", text, f)
	}
	s, f := types.Build(source)
	if f.Err != api.OK {
		t.Fatalf("P9.2: Build of %.200q: %v", text, f)
	}
	return s, s.Roots[len(s.Roots)-1].Type
}

// nodes: of the text of a value.
func nodes(t *testing.T, text string) []api.Node {
	t.Helper()
	v, f := value.Parse(text)
	if f.Err != api.OK {
		t.Fatalf("P4.6: Parse(%.200q) = %v", text, f)
	}
	return v
}

// hex: the bytes that a text says, with blanks between them.
func hex(t *testing.T, text string) []byte {
	t.Helper()
	var out []byte
	for _, part := range strings.Fields(text) {
		n, err := strconv.ParseUint(part, 16, 8)
		if err != nil || len(part) != 2 {
			t.Fatalf("%q are no bytes", text)
		}
		out = append(out, byte(n))
	}
	return out
}

// brief: what is to be told, not too long to be read. (Of a great list its first parts alone are written.)
func brief(x any) string {
	switch l := x.(type) {
	case []api.Node:
		if len(l) > 40 {
			return fmt.Sprintf("%d nodes: %v ..", len(l), l[:40])
		}
	case []byte:
		return fmt.Sprintf("%d bytes: % x", len(l), l[:min(len(l), 80)])
	}
	return fmt.Sprintf("%.400s", fmt.Sprintf("%+v", x))
}

// model: the relation's and the reading's words, for one schema and one input.
type model struct {
	types []api.Type
	sizes []*big.Int // of each fixed type; nil of a variable one
	input []byte
	ended bool
}

func modelOf(s api.Schema, input []byte, ended bool) *model {
	m := &model{types: s.Types, input: input, ended: ended}
	for _, t := range s.Types {
		m.sizes = append(m.sizes, m.fixedSize(t))
	}
	return m
}

// fixedSize: the size of a fixed type; nil of a variable one.
func (m *model) fixedSize(t api.Type) *big.Int {
	switch t.Kind {
	case api.KindUint:
		return big.NewInt(int64(t.N))
	case api.KindBool:
		return big.NewInt(1)
	case api.KindVector:
		if each := m.sizes[t.Elem]; each != nil {
			return new(big.Int).Mul(big.NewInt(int64(t.N)), each)
		}
	case api.KindStruct:
		sum := big.NewInt(0)
		for _, p := range t.Parts {
			if m.sizes[p.Type] == nil {
				return nil
			}
			sum.Add(sum, m.sizes[p.Type])
		}
		return sum
	}
	return nil
}

// partType: the type of an item or a field.
func partType(t api.Type, k int) int {
	if t.Kind == api.KindStruct {
		return t.Parts[k].Type
	}
	return t.Elem
}

// armType: the type of a union's arm with that tag; -1, if there is none.
func armType(t api.Type, tag uint64) int {
	for _, p := range t.Parts {
		if strconv.Itoa(p.Tag) == strconv.FormatUint(tag, 10) {
			return p.Type
		}
	}
	return -1
}

// lowFirst: so many bytes of a number, the lowest first.
func lowFirst(n uint64, count int) []byte {
	var out []byte
	for range count {
		out = append(out, byte(n%256))
		n /= 256
	}
	return out
}

// groups: the bytes of a varint.
func groups(n uint64) []byte {
	var out []byte
	for n >= 128 {
		out = append(out, byte(n%128+128))
		n /= 128
	}
	return append(out, byte(n))
}

// enc: the bytes of the value that a list begins with, and the nodes behind it. Each part's bytes are made first, and then laid behind each other.
func (m *model) enc(i int, v []api.Node) ([]byte, []api.Node) {
	t, n, rest := m.types[i], v[0], v[1:]
	switch t.Kind {
	case api.KindUint:
		return lowFirst(n.N, t.N), rest
	case api.KindBool:
		return []byte{byte(n.N)}, rest
	case api.KindVarint:
		return groups(n.N), rest
	case api.KindOption:
		if n.Kids == 0 {
			return []byte{0}, rest
		}
		b, rest := m.enc(t.Elem, rest)
		return append([]byte{1}, b...), rest
	case api.KindUnion:
		b, rest := m.enc(armType(t, n.N), rest)
		return append([]byte{byte(n.N)}, b...), rest
	}
	return m.encParts(t, n.Kids, rest)
}

// encParts: fields or items, the fixed part and what lies behind it.
func (m *model) encParts(t api.Type, count int, rest []api.Node) ([]byte, []api.Node) {
	parts := make([][]byte, count)
	length := 0
	for k := range parts {
		parts[k], rest = m.enc(partType(t, k), rest)
		if m.sizes[partType(t, k)] != nil {
			length += len(parts[k])
		} else {
			length += 4
		}
	}
	var head, tail []byte
	for k, part := range parts {
		if m.sizes[partType(t, k)] != nil {
			head = append(head, part...)
			continue
		}
		head = append(head, lowFirst(uint64(length+len(tail)), 4)...)
		tail = append(tail, part...)
	}
	return append(head, tail...), rest
}

// stop: why a reading doesn't go on: a fault, or it waits.
type stop struct {
	fault api.Fault
	waits bool
}

func fails(e api.Errno, at int) *stop { return &stop{fault: fault(e, at)} }

func (m *model) wanted(q, e int) (byte, *stop) {
	switch {
	case q == e:
		return 0, fails(api.ErrShort, q)
	case q < len(m.input):
		return m.input[q], nil
	case !m.ended:
		return 0, &stop{waits: true}
	}
	return 0, fails(api.ErrShort, q)
}

func (m *model) atEnd(q, e int) (bool, *stop) {
	if e >= 0 {
		return q == e, nil
	}
	if q < len(m.input) {
		return false, nil
	}
	if !m.ended {
		return false, &stop{waits: true}
	}
	return true, nil
}

// uint: a number of so many bytes.
func (m *model) uint(count, q, e int) (uint64, *stop) {
	var n, unit uint64 = 0, 1
	for k := range count {
		c, s := m.wanted(q+k, e)
		if s != nil {
			return 0, s
		}
		n += uint64(c) * unit
		unit *= 256
	}
	return n, nil
}

func (m *model) varint(q, e int) (uint64, int, *stop) {
	var n uint64
	for k := 0; ; k++ {
		c, s := m.wanted(q+k, e)
		if s != nil {
			return 0, 0, s
		}
		if k == 9 && c > 1 || k > 0 && c == 0 {
			return 0, 0, fails(api.ErrForm, q+k)
		}
		n |= uint64(c%128) << (7 * k)
		if c < 128 {
			return n, q + k + 1, nil
		}
	}
}

// value: of a type, from p within e: its nodes, and the position behind it.
func (m *model) value(i, p, e int) ([]api.Node, int, *stop) {
	t := m.types[i]
	switch t.Kind {
	case api.KindUint:
		n, s := m.uint(t.N, p, e)
		return []api.Node{uintNode(n)}, p + t.N, s
	case api.KindVarint:
		n, q, s := m.varint(p, e)
		return []api.Node{uintNode(n)}, q, s
	case api.KindVector:
		return m.parts(seqNode(t.N), t, nil, p, e)
	case api.KindStruct:
		return m.parts(structNode(len(t.Parts)), t, nil, p, e)
	case api.KindList:
		if m.sizes[t.Elem] != nil {
			return m.fixedList(t, p, e)
		}
		return m.variableList(t, p, e)
	}
	c, s := m.wanted(p, e)
	if s != nil {
		return nil, 0, s
	}
	return m.behind(t, c, p, e)
}

// behind: a bool, an option, a union, whose byte has come.
func (m *model) behind(t api.Type, c byte, p, e int) ([]api.Node, int, *stop) {
	switch {
	case t.Kind == api.KindBool && c > 1:
		return nil, 0, fails(api.ErrBool, p)
	case t.Kind == api.KindBool:
		return []api.Node{boolNode(uint64(c))}, p + 1, nil
	case t.Kind == api.KindOption && c == 0:
		return []api.Node{optionNode(0)}, p + 1, nil
	case t.Kind == api.KindOption && c == 1:
		v, q, s := m.value(t.Elem, p+1, e)
		return append([]api.Node{optionNode(1)}, v...), q, s
	case t.Kind == api.KindUnion && armType(t, uint64(c)) >= 0:
		v, q, s := m.value(armType(t, uint64(c)), p+1, e)
		return append([]api.Node{unionNode(uint64(c))}, v...), q, s
	}
	return nil, 0, fails(api.ErrTag, p)
}

func (m *model) fixedList(t api.Type, p, e int) ([]api.Node, int, *stop) {
	out := []api.Node{seqNode(0)}
	for {
		end, s := m.atEnd(p, e)
		if s != nil || end {
			return out, p, s
		}
		if out[0].Kids == t.N {
			return nil, 0, fails(api.ErrCount, p)
		}
		v, q, s := m.value(t.Elem, p, e)
		if s != nil {
			return nil, 0, s
		}
		out[0].Kids++
		out, p = append(out, v...), q
	}
}

func (m *model) variableList(t api.Type, p, e int) ([]api.Node, int, *stop) {
	end, s := m.atEnd(p, e)
	if s != nil || end {
		return []api.Node{seqNode(0)}, p, s
	}
	n, s := m.uint(4, p, e)
	if s != nil {
		return nil, 0, s
	}
	o := int(n)
	if o%4 != 0 || o <= 0 || e >= 0 && p+o > e {
		return nil, 0, fails(api.ErrOffset, p)
	}
	if o/4 > t.N {
		return nil, 0, fails(api.ErrCount, p)
	}
	return m.parts(seqNode(o/4), t, []int{o}, p, e)
}

// inFixedPart: how many bytes a type takes there.
func (m *model) inFixedPart(i int) *big.Int {
	if m.sizes[i] != nil {
		return m.sizes[i]
	}
	return big.NewInt(4)
}

// fixedPart: how long it is, of so many items or fields.
func (m *model) fixedPart(t api.Type, count int) *big.Int {
	if t.Kind != api.KindStruct {
		return new(big.Int).Mul(m.inFixedPart(t.Elem), big.NewInt(int64(count)))
	}
	sum := big.NewInt(0)
	for k := range count {
		sum.Add(sum, m.inFixedPart(partType(t, k)))
	}
	return sum
}

// parts: a struct's fields, a vector's or list's items, from p within e, as many as the head has kids; the first offsets may be known already (of a list).
func (m *model) parts(head api.Node, t api.Type, known []int, p, e int) ([]api.Node, int, *stop) {
	length := m.fixedPart(t, head.Kids)
	fields := make([][]api.Node, len(known))
	offsets := slices.Clone(known)
	q := p + 4*len(known)
	for k := len(known); k < head.Kids; k++ {
		var v []api.Node
		var o int
		var s *stop
		if i := partType(t, k); m.sizes[i] != nil {
			v, q, s = m.value(i, q, e)
		} else {
			o, s = m.offset(offsets, length, p, q, e)
			offsets, q = append(offsets, o), q+4
		}
		if s != nil {
			return nil, 0, s
		}
		fields = append(fields, v)
	}
	out := []api.Node{head}
	for k, v := range fields {
		if i := partType(t, k); m.sizes[i] == nil {
			end := e
			if len(offsets) > 1 {
				end = p + offsets[1]
			}
			var s *stop
			if v, q, s = m.upTo(i, p+offsets[0], end); s != nil {
				return nil, 0, s
			}
			offsets = offsets[1:]
		}
		out = append(out, v...)
	}
	return out, q, nil
}

// offset: the next one of a fixed part of that length, at q.
func (m *model) offset(ahead []int, length *big.Int, p, q, e int) (int, *stop) {
	n, s := m.uint(4, q, e)
	o := int(n)
	switch {
	case s != nil:
		return 0, s
	case len(ahead) == 0 && length.Cmp(big.NewInt(int64(o))) != 0, len(ahead) > 0 && o < ahead[len(ahead)-1], e >= 0 && p+o > e:
		return 0, fails(api.ErrOffset, q)
	}
	return o, nil
}

// upTo: a value that must be read up to its end, if that is known.
func (m *model) upTo(i, p, e int) ([]api.Node, int, *stop) {
	v, q, s := m.value(i, p, e)
	if s == nil && e >= 0 && q < e {
		return nil, 0, fails(api.ErrTail, q)
	}
	return v, q, s
}

// message: what the reading says of the whole input.
func (m *model) message(i int) ([]api.Node, api.Fault) {
	v, q, s := m.upTo(i, 0, -1)
	if s == nil {
		end, wait := m.atEnd(q, -1)
		s = wait
		if wait == nil && !end {
			s = fails(api.ErrTail, q)
		}
	}
	if s != nil {
		return nil, s.fault
	}
	return v, api.Fault{}
}

// ahead: the faults that go ahead of all else.
func ahead(s api.Schema, i int) api.Fault {
	if types.Check(s).Err != api.OK {
		return fault(api.ErrSchema, 0)
	}
	if i < 0 || i >= len(s.Types) {
		return fault(api.ErrPlace, 0)
	}
	return api.Fault{}
}

// encoded: what Encode is to answer.
func encoded(s api.Schema, i int, v []api.Node) ([]byte, api.Fault) {
	if f := ahead(s, i); f.Err != api.OK {
		return nil, f
	}
	if f := typing.Check(s, i, v); f.Err != api.OK {
		return nil, f
	}
	b, _ := modelOf(s, nil, true).enc(i, v)
	return b, api.Fault{}
}

// decoded: what Decode is to answer, or, if the input has not ended, Prefix.
func decoded(s api.Schema, i int, b []byte, ended bool) ([]api.Node, api.Fault) {
	if f := ahead(s, i); f.Err != api.OK {
		return nil, f
	}
	return modelOf(s, b, ended).message(i)
}

// encodes tells where Encode's answer is another one than said, or not as long as size says.
func encodes(t *testing.T, s api.Schema, i int, v []api.Node, want []byte, f api.Fault) {
	t.Helper()
	got, g := plain.Encode(s, i, v)
	if g != f || !bytes.Equal(got, want) {
		t.Errorf("P12.2: Encode(%s, %d, %s) = %s, %v, want %s, %v", brief(s), i, brief(v), brief(got), g, brief(want), f)
	}
	if g.Err != api.OK {
		if got != nil {
			t.Errorf("P12.1: Encode(%s, %d, %s): %v, and beside it %s", brief(s), i, brief(v), g, brief(got))
		}
		return
	}
	n, e := size.Length(s, i, v)
	extents, _ := size.Of(s)
	if x := extents[i]; e != api.OK || n != len(got) || n < x.Least || n > x.Most || x.Fixed && (n != x.Least || n != x.Most) {
		t.Errorf("P12.8: Encode(%s, %d, %s) has %d bytes; Length %d, %d, extent %+v", brief(s), i, brief(v), len(got), n, e, x)
	}
}

// encodesAll holds Encode against the model.
func encodesAll(t *testing.T, s api.Schema, i int, v []api.Node) ([]byte, api.Fault) {
	t.Helper()
	want, f := encoded(s, i, v)
	encodes(t, s, i, v, want, f)
	return want, f
}

// decodes tells where Decode's or Prefix's answer is another one than said.
func decodes(t *testing.T, s api.Schema, i int, b []byte, want []api.Node, f, front api.Fault) {
	t.Helper()
	got, g := plain.Decode(s, i, b)
	if g != f || !slices.Equal(got, want) {
		t.Errorf("P12.3: Decode(%s, %d, %s) = %s, %v, want %s, %v", brief(s), i, brief(b), brief(got), g, brief(want), f)
	}
	if g.Err != api.OK && got != nil {
		t.Errorf("P12.1: Decode(%s, %d, %s): %v, and beside it %s", brief(s), i, brief(b), g, brief(got))
	}
	h := plain.Prefix(s, i, b)
	if h != front {
		t.Errorf("P12.4: Prefix(%s, %d, %s) = %v, want %v", brief(s), i, brief(b), h, front)
	}
	if h.Err != api.OK && h != g || h.Err == api.OK && g.Err != api.OK && g != fault(api.ErrShort, len(b)) {
		t.Errorf("P12.7: %s, %d, %s: Prefix %v, Decode %v", brief(s), i, brief(b), h, g)
	}
}

// decodesAll holds Decode and Prefix against the model, and a value that is answered against its bytes.
func decodesAll(t *testing.T, s api.Schema, i int, b []byte) ([]api.Node, api.Fault) {
	t.Helper()
	want, f := decoded(s, i, b, true)
	_, front := decoded(s, i, b, false)
	decodes(t, s, i, b, want, f, front)
	if f.Err == api.OK {
		encodes(t, s, i, want, b, api.Fault{})
	}
	return want, f
}

// bothWays: of a value of the type: its bytes, and that they are the value's.
func bothWays(t *testing.T, s api.Schema, i int, v []api.Node) []byte {
	t.Helper()
	b, f := encodesAll(t, s, i, v)
	if f.Err != api.OK {
		t.Fatalf("%s is not of type %d of %s: %v", brief(v), i, brief(s), f)
	}
	decodes(t, s, i, b, v, api.Fault{}, api.Fault{})
	return b
}

// strangeNumbers: at all edges, negative and very great ones.
func strangeNumbers() []int {
	return []int{math.MinInt, math.MinInt + 1, -1 << 32, -1 << 31, -8, -1, 0, 1, 2, 3, 4, 5, 6, 7, 8, 9, 16, 63, 64, 65, 255, 256, 1<<20 - 1, 1 << 20, 1<<20 + 1, 1<<31 - 1, 1 << 31, 1<<32 + 1, 1<<62 - 1, 1 << 62, math.MaxInt - 1, math.MaxInt}
}

// strangeNodes: each kind, and what is none, with each N and Kids at the edges.
func strangeNodes() []api.Node {
	var out []api.Node
	for _, kind := range []int{math.MinInt, -1, 0, api.NodeUint, api.NodeBool, api.NodeSeq, api.NodeStruct, api.NodeOption, api.NodeUnion, 7, math.MaxInt} {
		for _, n := range []uint64{0, 1, 2, 127, 128, 199, 200, 255, 256, 1<<16 - 1, 1 << 16, 1<<32 - 1, 1 << 32, 1<<63 + 200, 1<<64 - 1} {
			for _, kids := range []int{math.MinInt, -1, 0, 1, 2, 64, 65, 1 << 20, 1<<20 + 1, math.MaxInt} {
				out = append(out, api.Node{Kind: kind, N: n, Kids: kids})
			}
		}
	}
	return out
}

// turned: sets a field to each of these, and lets be called what looks; the field is then as before.
func turned[T any](field *T, to []T, look func()) {
	held := *field
	for _, x := range to {
		*field = x
		look()
	}
	*field = held
}

// changes: each field of each type, part and root of a schema is set otherwise, one by one.
func changes(s api.Schema, look func()) {
	n := append(strangeNumbers(), len(s.Types)-1, len(s.Types))
	texts := []string{"", "type", "f0", "f1", "z", "A"}
	for i := range s.Types {
		x := &s.Types[i]
		n := append(slices.Clone(n), i-1, i, i+1)
		for _, field := range []*int{&x.Kind, &x.N, &x.Elem} {
			turned(field, n, look)
		}
		turned(&x.Parts, [][]api.Part{nil, {}, {{}}, {{Label: "a"}}, {{Label: "a"}, {Label: "b"}}, {{Tag: 1}}, {{Tag: 1}, {Tag: 0}}}, look)
		for k := range x.Parts {
			turned(&x.Parts[k].Label, texts, look)
			turned(&x.Parts[k].Tag, n, look)
			turned(&x.Parts[k].Type, n, look)
		}
	}
	for i := range s.Roots {
		turned(&s.Roots[i].Name, texts, look)
		turned(&s.Roots[i].Type, n, look)
	}
}

// rearranged: all lists that come of one by leaving out, doubling, swapping and cutting off, and by one more.
func rearranged[T any](l []T, more ...T) [][]T {
	out := [][]T{nil}
	for i := range l {
		out = append(out, slices.Concat(l[:i], l[i+1:]), slices.Concat(l[:i+1], l[i:]), slices.Clone(l[:i]))
		if i+1 < len(l) {
			out = append(out, slices.Concat(l[:i], []T{l[i+1], l[i]}, l[i+2:]))
		}
	}
	for _, x := range more {
		out = append(out, append(slices.Clone(l), x), append([]T{x}, l...))
	}
	return out
}

// kinds: a type of each kind, those that can be both fixed and variable; numbers 0 to 14.
func kinds() []api.Type {
	return []api.Type{
		uN(1), uN(2), uN(4), uN(8), boolean(), number(), // 0 to 5
		vector(3, 1), vector(2, 5), // 6: fixed, 7: variable
		list(3, 1), list(3, 5), // 8, 9: of fixed, of variable
		option(1), option(5), union(0, 5, 8), // 10 to 12
		structure(0, 4), structure(0, 5, 4), // 13: fixed, 14: variable
	}
}

// tower: n types, each an option of the one ahead.
func tower(n int) []api.Type {
	out := []api.Type{boolean()}
	for i := range n - 1 {
		out = append(out, option(i))
	}
	return out
}

// refused: schemas that types.Check refuses.
func refused() []api.Schema {
	root := func(names ...string) []api.Root {
		var out []api.Root
		for _, n := range names {
			out = append(out, api.Root{Name: n})
		}
		return out
	}
	many := []api.Root{}
	for i := range 257 {
		many = append(many, api.Root{Name: "r" + string(rune('a'+i/26)) + string(rune('a'+i%26))})
	}
	return []api.Schema{
		schema(api.Type{}), schema(option(0)), schema(boolean(), list(0, 0)), schema(boolean(), vector(1<<20+1, 0)), schema(boolean(), list(-1, 0)),
		schema(uN(3)), schema(uN(8), option(2)), schema(uN(8), option(-1)), schema(uN(8), structure()), schema(uN(8), structure(0, 1)),
		schema(uN(8), structure(make([]int, 65)...)), schema(uN(8), union(make([]int, 65)...)), schema(uN(8), api.Type{Kind: api.KindName}), schema(uN(8), api.Type{Kind: -1}), schema(uN(8), boolean(), api.Type{Kind: math.MaxInt}),
		schema(tower(65)...), schema(append(tower(65), api.Type{})...), {Types: tower(65), Roots: root("")},
		{Types: tower(64), Roots: root("")}, {Types: tower(1), Roots: root("a", "a")}, {Types: tower(1), Roots: []api.Root{{Name: "a", Type: 1}}}, {Roots: root("a")}, {Types: tower(1), Roots: many},
	}
}

// dice: numbers that look like chance, the same ones each time.
type dice uint64

func (d *dice) below(n int) int {
	*d = *d*6364136223846793005 + 1442695040888963407
	return int(uint64(*d)>>33) % n
}

// number: of any number of bits.
func (d *dice) number(bits int) uint64 {
	n := uint64(d.below(1<<30))<<40 ^ uint64(d.below(1<<30))<<20 ^ uint64(d.below(1<<30))
	return n & (1<<bits - 1) >> d.below(bits)
}

// bytes: so many; most of them small, so that they are lengths, tags and offsets too.
func (d *dice) bytes(n int) []byte {
	out := make([]byte, n)
	for k := range out {
		switch d.below(4) {
		case 0:
			out[k] = byte(d.below(256))
		case 1:
			out[k] = []byte{1, 2, 4, 8, 12, 16, 0x80, 200, 199, 198, 255}[d.below(11)]
		case 2:
			out[k] = byte(d.below(32))
		}
	}
	return out
}

// chance: a schema of n types that looks like chance; vectors and lists have at most so many items.
func chance(d *dice, n, most int) api.Schema {
	var s api.Schema
	var depths []int
	for i := range n {
		made := chanceType(d, i, most)
		depth := 0
		if made.Kind == api.KindVector || made.Kind == api.KindList || made.Kind == api.KindOption {
			depth = depths[made.Elem]
		}
		for _, p := range made.Parts {
			depth = max(depth, depths[p.Type])
		}
		if depth >= 60 {
			made, depth = number(), 0
		}
		s.Types = append(s.Types, made)
		depths = append(depths, depth+1)
	}
	return s
}

// chanceType: one that may have the number i.
func chanceType(d *dice, i, most int) api.Type {
	kind := 1 + d.below(8)
	if i == 0 {
		kind = 1 + d.below(3)
	}
	pick := func() int { return max(0, i-1-d.below(min(i, 6))) }
	switch kind {
	case api.KindUint:
		return uN(1 << d.below(4))
	case api.KindBool:
		return boolean()
	case api.KindVarint:
		return number()
	case api.KindVector:
		return vector(1+d.below(most), pick())
	case api.KindList:
		return list(1+d.below(most), pick())
	case api.KindOption:
		return option(pick())
	}
	var of []int
	for range 1 + d.below(4) {
		of = append(of, pick())
	}
	if kind == api.KindUnion {
		return union(of...)
	}
	return structure(of...)
}

// valueOf: a value of a type that looks like chance; nil, if it would have more than room nodes.
func valueOf(d *dice, s api.Schema, i, room int) []api.Node {
	t := s.Types[i]
	var n api.Node
	var arm int
	switch t.Kind {
	case api.KindUint:
		n = uintNode(d.number(8 * t.N))
	case api.KindVarint:
		n = uintNode(d.number(64))
	case api.KindBool:
		n = boolNode(uint64(d.below(2)))
	case api.KindVector:
		n = seqNode(t.N)
	case api.KindList:
		n = seqNode(d.below(t.N + 1))
	case api.KindOption:
		n = optionNode(d.below(2))
	case api.KindUnion:
		p := t.Parts[d.below(len(t.Parts))]
		n, arm = unionNode(uint64(p.Tag)), p.Type
	case api.KindStruct:
		n = structNode(len(t.Parts))
	}
	if n.Kids >= room {
		return nil
	}
	out := []api.Node{n}
	for k := range n.Kids {
		if t.Kind != api.KindUnion {
			arm = partType(t, k)
		}
		more := valueOf(d, s, arm, room-len(out))
		if more == nil {
			return nil
		}
		out = append(out, more...)
	}
	return out
}

// anyValue: a value that looks like chance, of no type that is asked for, so many nodes deep at most.
func anyValue(d *dice, deep int) []api.Node {
	kids := 0
	if deep > 1 {
		kids = d.below(4)
	}
	n := []api.Node{uintNode(d.number(64)), boolNode(uint64(d.below(2))), seqNode(kids), optionNode(min(kids, 1)), structNode(kids), unionNode(uint64(195 + d.below(8)))}[d.below(6)]
	if n.Kind == api.NodeUnion && deep == 1 || n.Kind == api.NodeStruct && kids == 0 {
		n = uintNode(uint64(d.below(300)))
	}
	out := []api.Node{n}
	for range n.Kids {
		out = append(out, anyValue(d, deep-1)...)
	}
	return out
}
