package layout_test

import (
	"math"
	"slices"
	"testing"
	"unsafe"

	"mortise/api"
	"mortise/layout"
)

// P13.1: Of ends, and doesn't panic, at schemas of which one field, the order or the number of types is another.
func TestAllSchemas(t *testing.T) {
	s := api.Schema{Types: append(kinds(), vector(1<<20, 14), list(1<<20, 9), option(16), union(17, 3), structure(18, 6, 15)), Roots: []api.Root{{Name: "a", Type: 19}, {Name: "f0"}}}
	look := func() { ofAll(t, s) }
	look()
	changes(s, look)
	for _, l := range rearranged(s.Types, api.Type{}, boolean(), option(0), list(3, 5), option(len(s.Types)), option(len(s.Types)-1)) {
		turned(&s.Types, [][]api.Type{l}, look)
	}
	for _, l := range rearranged(s.Roots, api.Root{}, api.Root{Name: "b"}, api.Root{Name: "c", Type: -1}) {
		turned(&s.Roots, [][]api.Root{l}, look)
	}
}

// P13.1: all schemas of one and of two types whose numbers lie at the edges.
func TestAllTypes(t *testing.T) {
	numbers := []int{math.MinInt, -1, 0, 1, 2, 4, 1 << 20, 1<<20 + 1, math.MaxInt}
	parts := [][]api.Part{nil, {{}}, {{Label: "a"}}, {{Label: "a", Type: -1}}, {{Label: "a", Type: 1}}, {{Label: "a"}, {Label: "b", Type: math.MaxInt}}, {{Tag: 255}}, {{Tag: math.MinInt}}}
	for kind := -1; kind <= 10; kind++ {
		for _, n := range numbers {
			for _, elem := range numbers {
				for _, p := range parts {
					x := api.Type{Kind: kind, N: n, Elem: elem, Parts: p}
					ofAll(t, schema(x))
					ofAll(t, schema(boolean(), x))
					ofAll(t, schema(number(), x))
				}
			}
		}
	}
}

// roomy: a copy with spare room in all its lists, and something in it that would be a fault.
func roomy(s api.Schema) api.Schema {
	out := api.Schema{Types: slices.Clip(slices.Clone(s.Types)), Roots: slices.Clip(slices.Clone(s.Roots))}
	out.Types = append(out.Types, api.Type{}, option(-1), uN(7))[:len(s.Types)]
	out.Roots = append(out.Roots, api.Root{Type: -1}, api.Root{Name: "a"})[:len(s.Roots)]
	for i := range out.Types {
		l := slices.Clip(slices.Clone(s.Types[i].Parts))
		out.Types[i].Parts = append(l, api.Part{Label: "?", Tag: -1, Type: -1}, api.Part{})[:len(l)]
	}
	return out
}

// roomyInts: a copy with spare room, and numbers in it that would be a fault.
func roomyInts(l []int) []int {
	return append(slices.Clip(slices.Clone(l)), -1, math.MaxInt, math.MinInt)[:len(l)]
}

// held: all that the lists of a schema hold, spare room too.
func held(s api.Schema) (out []any) {
	for _, x := range s.Types[:cap(s.Types)] {
		out = append(out, x.Kind, x.N, x.Elem, len(x.Parts))
		for _, p := range x.Parts[:cap(x.Parts)] {
			out = append(out, p)
		}
	}
	for _, r := range s.Roots[:cap(s.Roots)] {
		out = append(out, r)
	}
	return out
}

// P13.1: a schema that is handed in is not changed, spare room too, and spare room is not looked at.
func TestOfChangesNothing(t *testing.T) {
	d := dice(43)
	schemas := refused()
	for n := range 300 {
		schemas = append(schemas, chance(&d, n%30, 3))
	}
	for _, s := range schemas {
		x := roomy(s)
		before := held(x)
		ofAll(t, x)
		want, e := layout.Of(s)
		ofIs(t, x, want, e)
		if !slices.Equal(before, held(x)) {
			t.Errorf("P13.1: Of(%s): what is handed in is changed", brief(s))
		}
	}
}

// someRows: what is fixed, lengths or offsets behind it, and an end, with and without errors.
func someRows(d *dice) (fixed int, lengths, offsets []int, end int) {
	fixed = d.number(20)
	end = fixed
	for range d.below(12) {
		n := d.number(20)
		lengths, offsets = append(lengths, n), append(offsets, end)
		end += n
	}
	if len(lengths) > 0 {
		k := d.below(len(lengths))
		switch d.below(6) {
		case 0:
			lengths[k], offsets[k] = -1, -1
		case 1:
			lengths[k], offsets[k] = math.MaxInt, math.MaxInt
		case 2:
			fixed = -1 - fixed
		}
	}
	return fixed, lengths, offsets, end
}

// P13.1: lists of numbers that are handed in are not changed, spare room too, and spare room is not looked at.
func TestNumbersChangeNothing(t *testing.T) {
	d := dice(44)
	for range 3000 {
		fixed, lengths, offsets, end := someRows(&d)
		a, b := roomyInts(lengths), roomyInts(offsets)
		beforeA, beforeB := slices.Clone(a[:cap(a)]), slices.Clone(b[:cap(b)])
		offsetsAll(t, fixed, a)
		lengthsAll(t, fixed, b, end)
		if !slices.Equal(beforeA, a[:cap(a)]) || !slices.Equal(beforeB, b[:cap(b)]) {
			t.Errorf("P13.1: %d, %v, %v, %d: what is handed in is changed", fixed, lengths, offsets, end)
		}
	}
}

// overwrite writes over a list, spare room too.
func overwrite[T any](l []T, x T) {
	l = l[:cap(l)]
	for k := range l {
		l[k] = x
	}
}

// all: do all items of a list, spare room too, say this?
func all[T comparable](l []T, x T) bool {
	return !slices.ContainsFunc(l[:cap(l)], func(y T) bool { return y != x })
}

// P13.1: what Of answers is new memory, spare room too: no two lists share any, within an answer and between two.
func TestOfNewMemory(t *testing.T) {
	d := dice(45)
	for n := range 200 {
		s := chance(&d, n%60, 3)
		if n%10 == 0 {
			s.Types = append(schema(kinds()...).Types, structure(slices.Repeat([]int{5}, 64)...), structure(slices.Repeat([]int{0}, 63)...), vector(1, 3), list(1, 3))
		}
		want := layoutsOf(s)
		first, _ := layout.Of(s)
		second, _ := layout.Of(s)
		slots := make([][]api.Slot, len(first))
		for i, l := range first {
			slots[i] = l.Slots
			overwrite(slots[i], api.Slot{At: -1 - i, Size: -1 - i})
		}
		overwrite(first, api.Layout{Size: -7})
		for i, l := range slots {
			if !all(l, api.Slot{At: -1 - i, Size: -1 - i}) {
				t.Errorf("P13.1: Of(%s): the slots of type %d share memory with another list", brief(s), i)
			}
		}
		if !same(second, want) {
			t.Errorf("P13.1: Of(%s): two answers share memory", brief(s))
		}
		ofIs(t, s, want, api.OK)
	}
}

// P13.1: lists of numbers that are answered are new memory, spare room too, and share none with those that are handed in.
func TestNumbersNewMemory(t *testing.T) {
	d := dice(46)
	for range 3000 {
		fixed, lengths, offsets, end := someRows(&d)
		a, b := roomyInts(lengths), roomyInts(offsets)
		beforeA, beforeB := slices.Clone(a[:cap(a)]), slices.Clone(b[:cap(b)])
		var answers [][]int
		for range 2 {
			o, _ := layout.Offsets(fixed, a)
			l, _, _ := layout.Lengths(fixed, b, end)
			answers = append(answers, o, l)
		}
		for i, l := range answers {
			overwrite(l, -100-i)
		}
		for i, l := range answers {
			if !all(l, -100-i) {
				t.Errorf("P13.1: %d, %v, %v, %d: two answers share memory", fixed, lengths, offsets, end)
			}
		}
		if !slices.Equal(beforeA, a[:cap(a)]) || !slices.Equal(beforeB, b[:cap(b)]) {
			t.Errorf("P13.1: %d, %v, %v, %d: an answer shares memory with what was handed in", fixed, lengths, offsets, end)
		}
		offsetsAll(t, fixed, a)
		lengthsAll(t, fixed, b, end)
	}
}

// P13.1: what is answered stays as it is when what was handed in is changed, and each call looks at what it is handed now.
func TestLooksAgain(t *testing.T) {
	name := []byte("f1")
	s := schema(uN(1), number(), vector(3, 1), structure(0, 2))
	s.Types[3].Parts[1].Label = unsafe.String(&name[0], 2)
	layouts, _ := layout.Of(s)
	first := []api.Layout{{}, {}, {Size: 12, Slots: []api.Slot{{Variable: true, Size: 4}}}, {Size: 5, Slots: []api.Slot{{Size: 1}, {At: 1, Variable: true, Size: 4}}}}
	ofIs(t, s, first, api.OK)
	name[1] = '0'
	ofIs(t, s, nil, api.ErrSchema)
	name[1] = '2'
	s.Types[1] = uN(2)
	ofIs(t, s, []api.Layout{{}, {}, {Size: 6, Slots: []api.Slot{{Size: 2}}}, {Size: 7, Slots: []api.Slot{{Size: 1}, {At: 1, Size: 6}}}}, api.OK)
	s.Types[2].N = 1
	s.Types[3].Parts = s.Types[3].Parts[:1]
	ofIs(t, s, []api.Layout{{}, {}, {Size: 2, Slots: []api.Slot{{Size: 2}}}, {Size: 1, Slots: []api.Slot{{Size: 1}}}}, api.OK)

	numbers := []int{3, 0, 2}
	offsets, _ := layout.Offsets(9, numbers)
	numbers[0] = 4
	offsetsAre(t, 9, numbers, []int{9, 13, 13}, api.OK)
	numbers[2] = -1
	offsetsAre(t, 9, numbers, nil, api.ErrPlace)
	numbers = []int{9, 12, 12}
	lengths, _, _ := layout.Lengths(9, numbers, 14)
	numbers[2] = 13
	lengthsAre(t, 9, numbers, 14, []int{3, 1, 1}, 0, api.OK)
	numbers[1] = 15
	lengthsAre(t, 9, numbers, 14, nil, 1, api.ErrOffset)
	if !same(layouts, first) || !slices.Equal(offsets, []int{9, 12, 12}) || !slices.Equal(lengths, []int{3, 0, 2}) {
		t.Errorf("P13.1: answers are changed by later calls: %v, %v, %v", layouts, offsets, lengths)
	}
}

// P13.1: with an error the other answers are zero values, but for the place, whatever was answered ahead.
func TestZeroBesideError(t *testing.T) {
	right := schema(boolean(), list(3, 0), structure(0, 1))
	for _, s := range refused() {
		ofAll(t, right)
		ofIs(t, s, nil, api.ErrSchema)
	}
	for at := range 5 {
		l := []int{9, 12, 12, 13, 20}
		lengthsAre(t, 9, l, 20, []int{3, 0, 1, 7, 0}, 0, api.OK)
		lengthsAre(t, -1, l, 20, nil, 0, api.ErrPlace)
		l[at] = 21
		lengthsAre(t, 9, l, 20, nil, at, api.ErrOffset)
		offsetsAre(t, 1, []int{1, 2, 3, 4, 5}, []int{1, 2, 4, 7, 11}, api.OK)
		l[at] = -1
		offsetsAre(t, 9, l, nil, api.ErrPlace)
		l[at] = bound
		if at < 4 {
			offsetsAre(t, 9, l, nil, api.ErrBig)
		}
	}
}
