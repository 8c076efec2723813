package layout_test

import (
	"fmt"
	"math"
	"math/big"
	"slices"
	"strconv"
	"testing"

	"mortise/api"
	"mortise/layout"
	"mortise/syntax"
	"mortise/types"
)

func uN(bytes int) api.Type { return api.Type{Kind: api.KindUint, N: bytes} }

func boolean() api.Type { return api.Type{Kind: api.KindBool} }

func number() api.Type { return api.Type{Kind: api.KindVarint} }

func vector(n, of int) api.Type { return api.Type{Kind: api.KindVector, N: n, Elem: of} }

func list(n, of int) api.Type { return api.Type{Kind: api.KindList, N: n, Elem: of} }

func option(of int) api.Type { return api.Type{Kind: api.KindOption, Elem: of} }

// structure: a struct of fields f0, f1, .. of these types.
func structure(of ...int) api.Type {
	out := api.Type{Kind: api.KindStruct}
	for i, t := range of {
		out.Parts = append(out.Parts, api.Part{Label: "f" + strconv.Itoa(i), Type: t})
	}
	return out
}

// union: of arms 200, 199, .. of these types.
func union(of ...int) api.Type {
	out := api.Type{Kind: api.KindUnion}
	for i, t := range of {
		out.Parts = append(out.Parts, api.Part{Tag: 200 - i, Type: t})
	}
	return out
}

func schema(l ...api.Type) api.Schema { return api.Schema{Types: l} }

// built: the schema of a text that is a good one, and the number of its last root's type.
func built(t *testing.T, text string) (api.Schema, int) {
	t.Helper()
	source, f := syntax.Parse(text)
	if f.Err != api.OK {
		t.Fatalf("P6.2: Parse(%.200q) = %v", text, f)
	}
	s, f := types.Build(source)
	if f.Err != api.OK {
		t.Fatalf("P9.2: Build of %.200q: %v", text, f)
	}
	return s, s.Roots[len(s.Roots)-1].Type
}

// brief: what is to be told, not too long to be read.
func brief(x any) string { return fmt.Sprintf("%.400s", fmt.Sprintf("%+v", x)) }

func num(n int) *big.Int { return big.NewInt(int64(n)) }

// bounded: a size that saturates.
func bounded(n *big.Int) int {
	if n.Cmp(num(1<<62)) > 0 {
		return 1 << 62
	}
	return int(n.Int64())
}

// exact: whether a type is fixed, and, if it is, its size, not bounded.
type exact struct {
	fixed bool
	size  *big.Int
}

// exactOf: DOC.md's words of a type, by those ahead of it.
func exactOf(t api.Type, ahead []exact) exact {
	switch t.Kind {
	case api.KindUint:
		return exact{true, num(t.N)}
	case api.KindBool:
		return exact{true, num(1)}
	case api.KindVector:
		if item := ahead[t.Elem]; item.fixed {
			return exact{true, new(big.Int).Mul(num(t.N), item.size)}
		}
	case api.KindStruct:
		sum := num(0)
		for _, p := range t.Parts {
			if !ahead[p.Type].fixed {
				return exact{}
			}
			sum.Add(sum, ahead[p.Type].size)
		}
		return exact{true, sum}
	}
	return exact{}
}

// layoutsOf: what Of is to answer to a schema that is one, by the chapter's words, in numbers of any greatness.
func layoutsOf(s api.Schema) []api.Layout {
	var known []exact
	var out []api.Layout
	for _, t := range s.Types {
		known = append(known, exactOf(t, known))
		var made api.Layout
		sum := num(0)
		slot := func(of exact) {
			each := num(4)
			if of.fixed {
				each = of.size
			}
			made.Slots = append(made.Slots, api.Slot{At: bounded(sum), Variable: !of.fixed, Size: bounded(each)})
			sum = new(big.Int).Add(sum, each)
		}
		if t.Kind == api.KindVector || t.Kind == api.KindList {
			slot(known[t.Elem])
		}
		if t.Kind == api.KindStruct {
			for _, p := range t.Parts {
				slot(known[p.Type])
			}
			made.Size = bounded(sum)
		}
		if t.Kind == api.KindVector {
			made.Size = bounded(new(big.Int).Mul(num(t.N), sum))
		}
		out = append(out, made)
	}
	return out
}

// offsetsOf: what Offsets is to answer, in numbers of any greatness.
func offsetsOf(fixed int, lengths []int) ([]int, api.Errno) {
	if fixed < 0 || slices.ContainsFunc(lengths, func(n int) bool { return n < 0 }) {
		return nil, api.ErrPlace
	}
	var out []int
	sum := num(fixed)
	for _, n := range lengths {
		if sum.BitLen() > 32 {
			return nil, api.ErrBig
		}
		out = append(out, int(sum.Int64()))
		sum = new(big.Int).Add(sum, num(n))
	}
	return out, api.OK
}

// lengthsOf: what Lengths is to answer, in numbers of any greatness.
func lengthsOf(fixed int, offsets []int, end int) ([]int, int, api.Errno) {
	if fixed < 0 {
		return nil, 0, api.ErrPlace
	}
	for i, o := range offsets {
		right := o == fixed
		if i > 0 {
			right = o >= offsets[i-1]
		}
		if !right || o > end {
			return nil, i, api.ErrOffset
		}
	}
	var out []int
	ends := append(slices.Clone(offsets), end)
	for i, o := range offsets {
		out = append(out, int(new(big.Int).Sub(num(ends[i+1]), num(o)).Int64()))
	}
	return out, 0, api.OK
}

func same(a, b []api.Layout) bool {
	return slices.EqualFunc(a, b, func(x, y api.Layout) bool {
		return x.Size == y.Size && slices.Equal(x.Slots, y.Slots)
	})
}

// ofIs tells where Of's answer is another one than said.
func ofIs(t *testing.T, s api.Schema, want []api.Layout, e api.Errno) {
	t.Helper()
	got, g := layout.Of(s)
	if g != e || !same(got, want) {
		t.Errorf("P13.2: Of(%s) = %s, %d, want %s, %d", brief(s), brief(got), g, brief(want), e)
	}
	if g != api.OK && got != nil {
		t.Errorf("P13.1: Of(%s): error %d, and beside it %s", brief(s), g, brief(got))
	}
}

// ofAll holds Of against the model.
func ofAll(t *testing.T, s api.Schema) []api.Layout {
	t.Helper()
	if f := types.Check(s); f.Err != api.OK {
		ofIs(t, s, nil, api.ErrSchema)
		return nil
	}
	want := layoutsOf(s)
	ofIs(t, s, want, api.OK)
	return want
}

// offsetsAre tells where the answer of Offsets is another one than said.
func offsetsAre(t *testing.T, fixed int, lengths, want []int, e api.Errno) {
	t.Helper()
	got, g := layout.Offsets(fixed, lengths)
	if g != e || !slices.Equal(got, want) {
		t.Errorf("P13.3: Offsets(%d, %s) = %s, %d, want %s, %d", fixed, brief(lengths), brief(got), g, brief(want), e)
	}
	if g != api.OK && got != nil {
		t.Errorf("P13.1: Offsets(%d, %s): error %d, and beside it %s", fixed, brief(lengths), g, brief(got))
	}
}

// offsetsAll holds Offsets against the model.
func offsetsAll(t *testing.T, fixed int, lengths []int) {
	t.Helper()
	want, e := offsetsOf(fixed, lengths)
	offsetsAre(t, fixed, lengths, want, e)
}

// lengthsAre tells where the answer of Lengths is another one than said.
func lengthsAre(t *testing.T, fixed int, offsets []int, end int, want []int, at int, e api.Errno) {
	t.Helper()
	got, place, g := layout.Lengths(fixed, offsets, end)
	if g != e || place != at || !slices.Equal(got, want) {
		t.Errorf("P13.4: Lengths(%d, %s, %d) = %s, %d, %d, want %s, %d, %d", fixed, brief(offsets), end, brief(got), place, g, brief(want), at, e)
	}
	if g != api.OK && got != nil {
		t.Errorf("P13.1: Lengths(%d, %s, %d): error %d, and beside it %s", fixed, brief(offsets), end, g, brief(got))
	}
}

// lengthsAll holds Lengths against the model.
func lengthsAll(t *testing.T, fixed int, offsets []int, end int) {
	t.Helper()
	want, at, e := lengthsOf(fixed, offsets, end)
	lengthsAre(t, fixed, offsets, end, want, at, e)
}

// strangeNumbers: at all edges, negative and very great ones.
func strangeNumbers() []int {
	return []int{math.MinInt, math.MinInt + 1, -1 << 32, -1 << 31, -8, -1, 0, 1, 2, 3, 4, 5, 6, 7, 8, 9, 16, 63, 64, 65, 255, 256, 1<<20 - 1, 1 << 20, 1<<20 + 1, 1<<31 - 1, 1 << 31, 1<<32 - 2, 1<<32 - 1, 1 << 32, 1<<32 + 1, 1<<62 - 1, 1 << 62, math.MaxInt - 1, math.MaxInt}
}

// fewNumbers: the edges that offsets and lengths have, for lists of several of them.
func fewNumbers() []int {
	return []int{math.MinInt, -1, 0, 1, 9, 1 << 31, 1<<32 - 2, 1<<32 - 1, 1 << 32, 1 << 62, math.MaxInt - 1, math.MaxInt}
}

// listsOf: all lists of these numbers of at most so many items.
func listsOf(numbers []int, most int) [][]int {
	out := [][]int{nil}
	last := out
	for range most {
		var longer [][]int
		for _, l := range last {
			for _, n := range numbers {
				longer = append(longer, append(slices.Clone(l), n))
			}
		}
		out = append(out, longer...)
		last = longer
	}
	return out
}

// turned: sets a field to each of these, and lets be called what looks; the field is then as before.
func turned[T any](field *T, to []T, look func()) {
	held := *field
	for _, x := range to {
		*field = x
		look()
	}
	*field = held
}

// changes: each field of each type, part and root of a schema is set otherwise, one by one.
func changes(s api.Schema, look func()) {
	n := append(strangeNumbers(), len(s.Types)-1, len(s.Types))
	texts := []string{"", "type", "f0", "f1", "z", "A"}
	for i := range s.Types {
		x := &s.Types[i]
		n := append(slices.Clone(n), i-1, i, i+1)
		for _, field := range []*int{&x.Kind, &x.N, &x.Elem} {
			turned(field, n, look)
		}
		turned(&x.Parts, [][]api.Part{nil, {}, {{}}, {{Label: "a"}}, {{Label: "a"}, {Label: "b"}}, {{Tag: 1}}, {{Tag: 1}, {Tag: 0}}}, look)
		for k := range x.Parts {
			turned(&x.Parts[k].Label, texts, look)
			turned(&x.Parts[k].Tag, n, look)
			turned(&x.Parts[k].Type, n, look)
		}
	}
	for i := range s.Roots {
		turned(&s.Roots[i].Name, texts, look)
		turned(&s.Roots[i].Type, n, look)
	}
}

// rearranged: all lists that come of one by leaving out, doubling, swapping and cutting off, and by one more.
func rearranged[T any](l []T, more ...T) [][]T {
	out := [][]T{nil}
	for i := range l {
		out = append(out, slices.Concat(l[:i], l[i+1:]), slices.Concat(l[:i+1], l[i:]), slices.Clone(l[:i]))
		if i+1 < len(l) {
			out = append(out, slices.Concat(l[:i], []T{l[i+1], l[i]}, l[i+2:]))
		}
	}
	for _, x := range more {
		out = append(out, append(slices.Clone(l), x), append([]T{x}, l...))
	}
	return out
}

// dice: numbers that look like chance, the same ones each time.
type dice uint64

func (d *dice) below(n int) int {
	*d = *d*6364136223846793005 + 1442695040888963407
	return int(uint64(*d)>>33) % n
}

// number: from 0 on, of at most so many bits.
func (d *dice) number(bits int) int {
	n := uint64(d.below(1<<30))<<40 ^ uint64(d.below(1<<30))<<20 ^ uint64(d.below(1<<30))
	return int(n & (1<<bits - 1) >> d.below(bits))
}

// depthOf: one more than the deepest that a type is made of.
func depthOf(t api.Type, depths []int) int {
	depth := 0
	if t.Kind == api.KindVector || t.Kind == api.KindList || t.Kind == api.KindOption {
		depth = depths[t.Elem]
	}
	for _, p := range t.Parts {
		depth = max(depth, depths[p.Type])
	}
	return depth + 1
}

// chance: a schema of n types that looks like chance; vectors and lists have at most so many items.
func chance(d *dice, n, most int) api.Schema {
	var s api.Schema
	var depths []int
	for i := range n {
		kind := 1 + d.below(8)
		if i == 0 {
			kind = 1 + d.below(3)
		}
		made := anyType(d, kind, most, func() int { return max(0, i-1-d.below(min(i, 6))) })
		if depthOf(made, depths) > 60 {
			made = []api.Type{number(), uN(2)}[i%2]
		}
		s.Types = append(s.Types, made)
		depths = append(depths, depthOf(made, depths))
	}
	return s
}

// anyType: of a kind, made of types that are picked.
func anyType(d *dice, kind, most int, pick func() int) api.Type {
	switch kind {
	case api.KindUint:
		return uN(1 << d.below(4))
	case api.KindBool:
		return boolean()
	case api.KindVarint:
		return number()
	case api.KindVector:
		return vector(1+d.below(most), pick())
	case api.KindList:
		return list(1+d.below(most), pick())
	case api.KindOption:
		return option(pick())
	}
	var of []int
	for range 1 + d.below(5) {
		of = append(of, pick())
	}
	if kind == api.KindUnion {
		return union(of...)
	}
	return structure(of...)
}
