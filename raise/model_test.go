package raise_test

import (
	"fmt"
	"math"
	"math/big"
	"slices"
	"strconv"
	"strings"
	"testing"

	"mortise/api"
	"mortise/syntax"
	"mortise/types"
)

func uN(bytes int) api.Type { return api.Type{Kind: api.KindUint, N: bytes} }

func boolean() api.Type { return api.Type{Kind: api.KindBool} }

func number() api.Type { return api.Type{Kind: api.KindVarint} }

func vector(n, of int) api.Type { return api.Type{Kind: api.KindVector, N: n, Elem: of} }

func list(n, of int) api.Type { return api.Type{Kind: api.KindList, N: n, Elem: of} }

func option(of int) api.Type { return api.Type{Kind: api.KindOption, Elem: of} }

// structure: a struct of fields f0, f1, .. of these types.
func structure(of ...int) api.Type {
	out := api.Type{Kind: api.KindStruct}
	for i, t := range of {
		out.Parts = append(out.Parts, api.Part{Label: "f" + strconv.Itoa(i), Type: t})
	}
	return out
}

// union: of arms 200, 199, .. of these types.
func union(of ...int) api.Type {
	out := api.Type{Kind: api.KindUnion}
	for i, t := range of {
		out.Parts = append(out.Parts, api.Part{Tag: 200 - i, Type: t})
	}
	return out
}

func schema(l ...api.Type) api.Schema { return api.Schema{Types: l} }

// built: the schema of a text that is a good one.
func built(t *testing.T, text string) api.Schema {
	t.Helper()
	source, f := syntax.Parse(text)
	if f.Err != api.OK {
		t.Fatalf("P6.2: Parse(%.200q) = %v", text, f)
	}
	s, f := types.Build(source)
	if f.Err != api.OK {
		t.Fatalf("P9.2: Build of %.200q: %v", text, f)
	}
	return s
}

// extent: whether a type is fixed, its greatest size, and that of its fixed part if it is a struct, in numbers of any greatness.
type extent struct {
	fixed      bool
	most, slot *big.Int
}

func num(n int) *big.Int { return big.NewInt(int64(n)) }

func plus(a, b *big.Int) *big.Int { return new(big.Int).Add(a, b) }

func greater(a, b *big.Int) *big.Int {
	if a.Cmp(b) < 0 {
		return b
	}
	return a
}

// asPart: what a type takes at most as an item or field, and in the fixed part alone.
func asPart(x extent) (most, slot *big.Int) {
	if x.fixed {
		return x.most, x.most
	}
	return plus(num(4), x.most), num(4)
}

// extentOf: DOC.md's words of a type, by those ahead of it.
func extentOf(t api.Type, ahead []extent) extent {
	out := extent{most: num(0), slot: num(0)}
	switch t.Kind {
	case api.KindUint:
		out.fixed, out.most = true, num(t.N)
	case api.KindBool:
		out.fixed, out.most = true, num(1)
	case api.KindVarint:
		out.most = num(10)
	case api.KindVector, api.KindList:
		most, _ := asPart(ahead[t.Elem])
		out.fixed = t.Kind == api.KindVector && ahead[t.Elem].fixed
		out.most = new(big.Int).Mul(num(t.N), most)
	case api.KindOption:
		out.most = plus(num(1), ahead[t.Elem].most)
	case api.KindUnion:
		for _, p := range t.Parts {
			out.most = greater(out.most, plus(num(1), ahead[p.Type].most))
		}
	case api.KindStruct:
		out.fixed = true
		for _, p := range t.Parts {
			most, slot := asPart(ahead[p.Type])
			out.fixed = out.fixed && ahead[p.Type].fixed
			out.most, out.slot = plus(out.most, most), plus(out.slot, slot)
		}
	}
	return out
}

// extentsOf: of all types of a schema that is one.
func extentsOf(s api.Schema) (out []extent) {
	for _, t := range s.Types {
		out = append(out, extentOf(t, out))
	}
	return out
}

// fixedPart: what the chapter calls so: at a place of a struct.
func fixedPart(s api.Schema, at string, of int) string {
	switch t := s.Types[of]; t.Kind {
	case api.KindUint:
		return fmt.Sprintf("number %s %d", at, t.N)
	case api.KindBool:
		return "flag " + at
	}
	return fmt.Sprintf("enter %s %d", at, of)
}

// fixedItem: what the chapter calls so.
func fixedItem(s api.Schema, of int, known []extent) string {
	switch t := s.Types[of]; t.Kind {
	case api.KindUint:
		return fmt.Sprintf("number -1 %d", t.N)
	case api.KindBool:
		return "flag -1"
	}
	return fmt.Sprintf("each %v %d", known[of].most, of)
}

// routineText: a type's routine, by the chapter's table.
func routineText(s api.Schema, own int, known []extent) string {
	t := s.Types[own]
	switch t.Kind {
	case api.KindUnion:
		return unionText(t)
	case api.KindStruct:
		return structText(s, t, known, known[own])
	}
	key := []string{"", "uN", "bool", "varint", "vector", "list", "option"}[t.Kind]
	item := ""
	if t.Kind == api.KindVector || t.Kind == api.KindList {
		key = fmt.Sprint(key, " ", known[t.Elem].fixed)
		item = fixedItem(s, t.Elem, known)
	}
	text := map[string]string{
		"uN":           "number 0 {n}; ret",
		"bool":         "flag 0; ret",
		"varint":       "leb; ret",
		"vector true":  "many {n}; [i] {item}; again i; ret",
		"vector false": "many {n}; room -1; [s] slot -1; append {T}; again s; ret",
		"list true":    "upto {n}; jump a; [i] {item}; [a] again i; ret",
		"list false":   "upto {n}; room -1; jump a; [s] slot -1; append {T}; [a] again s; ret",
		"option":       "maybe r; append {T}; [r] ret",
	}[key]
	return strings.NewReplacer("{n}", strconv.Itoa(t.N), "{T}", strconv.Itoa(t.Elem), "{item}", item).Replace(text)
}

func unionText(t api.Type) string {
	out := []string{fmt.Sprintf("choice %d", len(t.Parts))}
	for i, p := range t.Parts {
		out = append(out, fmt.Sprintf("arm %d x%d", p.Tag, i))
	}
	for i, p := range t.Parts {
		out = append(out, fmt.Sprintf("[x%d] append %d; ret", i, p.Type))
	}
	return strings.Join(out, "; ")
}

func structText(s api.Schema, t api.Type, known []extent, own extent) string {
	out := []string{fmt.Sprintf("fields %d", len(t.Parts))}
	if !own.fixed {
		out = append(out, fmt.Sprintf("room %v", own.slot))
	}
	at := num(0)
	for _, p := range t.Parts {
		if known[p.Type].fixed {
			out = append(out, fixedPart(s, at.String(), p.Type))
		} else {
			out = append(out, fmt.Sprintf("slot %v; append %d", at, p.Type))
		}
		_, bytes := asPart(known[p.Type])
		at = plus(at, bytes)
	}
	return strings.Join(append(out, "ret"), "; ")
}

// modelOf: what Decoder is to answer.
func modelOf(s api.Schema) (api.Program, api.Errno) {
	if types.Check(s).Err != api.OK {
		return api.Program{}, api.ErrSchema
	}
	known := extentsOf(s)
	for _, x := range known {
		if x.most.Cmp(num(1<<24)) > 0 {
			return api.Program{}, api.ErrBig
		}
	}
	var texts []string
	for own := range s.Types {
		texts = append(texts, routineText(s, own, known))
	}
	p := program(texts...)
	if len(p.Code) > 1<<20 {
		return api.Program{}, api.ErrLong
	}
	return p, api.OK
}

// encoderAll holds Decoder against the model.
func encoderAll(t *testing.T, s api.Schema) api.Errno {
	t.Helper()
	want, e := modelOf(s)
	if e != api.OK {
		refusedIs(t, s, e)
	} else {
		encoderIs(t, s, want)
	}
	return e
}

// strangeNumbers: at all edges, negative and very great ones.
func strangeNumbers() []int {
	return []int{math.MinInt, math.MinInt + 1, -1 << 32, -1 << 31, -8, -1, 0, 1, 2, 3, 4, 5, 6, 7, 8, 9, 16, 63, 64, 65, 255, 256, 1<<20 - 1, 1 << 20, 1<<20 + 1, 1<<31 - 1, 1 << 31, 1<<32 - 1, 1 << 32, 1 << 62, math.MaxInt - 1, math.MaxInt}
}

// turned: sets a field to each of these, and lets be called what looks; the field is then as before.
func turned[T any](field *T, to []T, look func()) {
	held := *field
	for _, x := range to {
		*field = x
		look()
	}
	*field = held
}

// changes: each field of each type, part and root of a schema is set otherwise, one by one.
func changes(s api.Schema, look func()) {
	n := append(strangeNumbers(), len(s.Types)-1, len(s.Types))
	texts := []string{"", "type", "f0", "f1", "z", "A"}
	for i := range s.Types {
		x := &s.Types[i]
		n := append(slices.Clone(n), i-1, i, i+1)
		for _, field := range []*int{&x.Kind, &x.N, &x.Elem} {
			turned(field, n, look)
		}
		turned(&x.Parts, [][]api.Part{nil, {}, {{}}, {{Label: "a"}}, {{Label: "a"}, {Label: "b"}}, {{Tag: 1}}, {{Tag: 1}, {Tag: 0}}}, look)
		for k := range x.Parts {
			turned(&x.Parts[k].Label, texts, look)
			turned(&x.Parts[k].Tag, n, look)
			turned(&x.Parts[k].Type, n, look)
		}
	}
	for i := range s.Roots {
		turned(&s.Roots[i].Name, texts, look)
		turned(&s.Roots[i].Type, n, look)
	}
}

// rearranged: all lists that come of one by leaving out, doubling, swapping and cutting off, and by one more.
func rearranged[T any](l []T, more ...T) [][]T {
	out := [][]T{nil}
	for i := range l {
		out = append(out, slices.Concat(l[:i], l[i+1:]), slices.Concat(l[:i+1], l[i:]), slices.Clone(l[:i]))
		if i+1 < len(l) {
			out = append(out, slices.Concat(l[:i], []T{l[i+1], l[i]}, l[i+2:]))
		}
	}
	for _, x := range more {
		out = append(out, append(slices.Clone(l), x), append([]T{x}, l...))
	}
	return out
}

// dice: numbers that look like chance, the same ones each time.
type dice uint64

func (d *dice) below(n int) int {
	*d = *d*6364136223846793005 + 1442695040888963407
	return int(uint64(*d)>>33) % n
}

// chance: a schema of n types that looks like chance, none of them too great or too deep; it has a root for some of them.
func chance(d *dice, n int) api.Schema {
	var s api.Schema
	var known []extent
	var depths []int
	for i := range n {
		kind := 1 + d.below(8)
		if i == 0 {
			kind = 1 + d.below(3)
		}
		made := anyType(d, kind, func() int { return max(0, i-1-d.below(min(i, 9))) })
		if x := extentOf(made, known); x.most.Cmp(num(1<<24)) > 0 || depthOf(made, depths) > 64 {
			made = []api.Type{number(), uN(2)}[i%2]
		}
		s.Types = append(s.Types, made)
		known = append(known, extentOf(made, known))
		depths = append(depths, depthOf(made, depths))
		if d.below(3) == 0 {
			s.Roots = append(s.Roots, api.Root{Name: "r" + strconv.Itoa(i), Type: d.below(i + 1)})
		}
	}
	return s
}

// depthOf: one more than the deepest that a type is made of.
func depthOf(t api.Type, depths []int) int {
	depth := 0
	if t.Kind == api.KindVector || t.Kind == api.KindList || t.Kind == api.KindOption {
		depth = depths[t.Elem]
	}
	for _, p := range t.Parts {
		depth = max(depth, depths[p.Type])
	}
	return depth + 1
}

// anyType: of a kind, made of types that are picked.
func anyType(d *dice, kind int, pick func() int) api.Type {
	switch kind {
	case api.KindUint:
		return uN(1 << d.below(4))
	case api.KindBool:
		return boolean()
	case api.KindVarint:
		return number()
	case api.KindVector:
		return vector(1+d.below(1<<d.below(9)), pick())
	case api.KindList:
		return list(1+d.below(1<<d.below(9)), pick())
	case api.KindOption:
		return option(pick())
	}
	var of []int
	for range 1 + d.below(1<<d.below(7)) {
		of = append(of, pick())
	}
	if kind == api.KindUnion {
		return union(of...)
	}
	return structure(of...)
}
