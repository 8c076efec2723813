package layout_test

import (
	"bytes"
	"math"
	"math/big"
	"slices"
	"testing"

	"mortise/api"
	"mortise/layout"
	"mortise/le"
	"mortise/plain"
	"mortise/size"
	"mortise/typing"
	"mortise/value"
)

// thereAndBack tells where Lengths of what Offsets answers is not what was handed in; whether it could be asked.
func thereAndBack(t *testing.T, fixed int, lengths []int) bool {
	t.Helper()
	o, e := layout.Offsets(fixed, lengths)
	end := num(fixed)
	for _, n := range lengths {
		end = new(big.Int).Add(end, num(n))
	}
	if e != api.OK || !end.IsInt64() {
		return false
	}
	got, at, e := layout.Lengths(fixed, o, int(end.Int64()))
	if e != api.OK || at != 0 || !slices.Equal(got, lengths) {
		t.Errorf("P13.5: Offsets(%d, %s) is %s, but Lengths of it up to %v %s, %d, %d", fixed, brief(lengths), brief(o), end, brief(got), at, e)
	}
	return true
}

// backAndThere tells where Offsets of what Lengths answers is not what was handed in; whether it could be asked.
func backAndThere(t *testing.T, fixed int, offsets []int, end int) bool {
	t.Helper()
	l, _, e := layout.Lengths(fixed, offsets, end)
	if e != api.OK {
		return false
	}
	got, e := layout.Offsets(fixed, l)
	if slices.ContainsFunc(offsets, func(o int) bool { return o > bound }) {
		if e != api.ErrBig {
			t.Errorf("P13.3: Offsets(%d, %s) = %s, %d, though %s has one that is too great", fixed, brief(l), brief(got), e, brief(offsets))
		}
		return false
	}
	if e != api.OK || !slices.Equal(got, offsets) {
		t.Errorf("P13.5: Lengths(%d, %s, %d) is %s, but Offsets of it %s, %d", fixed, brief(offsets), end, brief(l), brief(got), e)
	}
	return true
}

// P13.5: of all short lists of numbers at the edges.
func TestThereAndBackEdges(t *testing.T) {
	asked := 0
	numbers := append(fewNumbers(), math.MaxInt-bound, math.MaxInt-bound-1, math.MaxInt-9)
	for _, l := range listsOf(numbers, 3) {
		for _, fixed := range numbers {
			if thereAndBack(t, fixed, l) {
				asked++
			}
		}
	}
	if asked < 800 {
		t.Errorf("only %d were asked", asked)
	}
	asked = 0
	for _, l := range listsOf(fewNumbers(), 3) {
		for _, end := range fewNumbers() {
			for _, fixed := range slices.Concat(l[:min(1, len(l))], []int{0}) {
				if backAndThere(t, fixed, l, end) {
					asked++
				}
			}
		}
	}
	if asked < 300 {
		t.Errorf("only %d were asked back", asked)
	}
}

// P13.5: the end at the greatest int, and the offsets at the greatest that fits.
func TestThereAndBackGreat(t *testing.T) {
	for _, fixed := range []int{0, 1, 9, bound - 1, bound} {
		for _, l := range [][]int{{}, {0}, {math.MaxInt - fixed}, {bound - fixed, math.MaxInt - bound}, {0, bound - fixed, 0, math.MaxInt - bound}, {bound - fixed, 0, 0}} {
			if !thereAndBack(t, fixed, l) {
				t.Errorf("P13.3: Offsets(%d, %v) is refused", fixed, l)
			}
		}
		for _, end := range []int{bound, bound + 1, huge, math.MaxInt} {
			for _, l := range [][]int{{}, {fixed}, {fixed, bound}, {fixed, fixed, bound, bound}} {
				if !backAndThere(t, fixed, l, end) {
					t.Errorf("P13.4: Lengths(%d, %v, %d) is refused", fixed, l, end)
				}
			}
		}
	}
}

// P13.5: lists that look like chance.
func TestThereAndBackChance(t *testing.T) {
	d := dice(31)
	asked, back := 0, 0
	for n := range 20000 {
		fixed := d.number(32)
		at := fixed
		var lengths, offsets []int
		for range d.below(30) {
			lengths = append(lengths, d.number(1+n%33)*d.below(3))
			offsets = append(offsets, at)
			at += lengths[len(lengths)-1]
		}
		if thereAndBack(t, fixed, lengths) {
			asked++
		}
		if backAndThere(t, fixed, offsets, at+d.number(62)) {
			back++
		}
	}
	if asked < 10000 || back < 10000 {
		t.Errorf("only %d were asked, and %d back", asked, back)
	}
}

// fixedAre tells where a fixed struct or vector is laid out otherwise than size.Of says; how many there are.
func fixedAre(t *testing.T, s api.Schema) int {
	t.Helper()
	layouts, e := layout.Of(s)
	extents, g := size.Of(s)
	if e != api.OK || g != api.OK || len(layouts) != len(extents) {
		t.Fatalf("P13.2: Of(%s): %d, size.Of: %d", brief(s), e, g)
	}
	asked := 0
	for i, x := range extents {
		kind, l := s.Types[i].Kind, layouts[i]
		if kind != api.KindStruct && kind != api.KindVector {
			continue
		}
		anyVariable := slices.ContainsFunc(l.Slots, func(s api.Slot) bool { return s.Variable })
		if x.Fixed == anyVariable {
			t.Errorf("P13.6: type %d of %s is %+v, its layout %+v", i, brief(s), x, l)
		}
		if !x.Fixed {
			continue
		}
		asked++
		if l.Size != x.Least || l.Size != x.Most {
			t.Errorf("P13.6: type %d of %s has the sizes %d and %d, its layout %d", i, brief(s), x.Least, x.Most, l.Size)
		}
	}
	return asked
}

// P13.6: each kind over each kind, sizes that saturate, and schemas that look like chance.
func TestFixed(t *testing.T) {
	d := dice(32)
	asked := fixedAre(t, schema(kinds()...))
	for n := range 600 {
		asked += fixedAre(t, chance(&d, 1+n%60, []int{3, 300, 1 << 20}[n%3]))
	}
	for below := range 5 {
		var s api.Schema
		x := sized(&s, huge-below)
		s.Types = append(s.Types, uN(1), structure(x, x+1), structure(x+1, x, x+1), vector(1, x), vector(2, x), structure(x, x))
		asked += fixedAre(t, s)
	}
	if asked < 1500 {
		t.Errorf("only %d fixed structs and vectors were asked for", asked)
	}
}

// P13.6: fixed types alone, of as many fields and as deep as may be.
func TestFixedDeep(t *testing.T) {
	for _, next := range []func(i int) api.Type{
		func(i int) api.Type { return structure(slices.Repeat([]int{i}, 64)...) }, func(i int) api.Type { return structure(i, 0) }, func(i int) api.Type { return structure(i) },
		func(i int) api.Type { return vector(1, i) }, func(i int) api.Type { return vector(3, i) }, func(i int) api.Type { return vector(1<<20, i) },
	} {
		for _, first := range []api.Type{uN(1), uN(2), uN(4), uN(8), boolean()} {
			s := schema(first)
			for i := range 63 {
				s.Types = append(s.Types, next(i))
			}
			if n := fixedAre(t, s); n != 63 {
				t.Errorf("P13.6: only %d of %s are fixed", n, brief(s))
			}
		}
	}
}

// P13.2, P13.3, P13.4: slots, offsets and lengths are those of the bytes that the relation tells.
func TestTheRelation(t *testing.T) {
	d := dice(33)
	asked := 0
	for n := range 1500 {
		s := chance(&d, 1+n%30, 1+n%5)
		layouts, _ := layout.Of(s)
		i := len(s.Types) - 1
		var picks []int
		for range 60 {
			picks = append(picks, d.number(20))
		}
		v, e := typing.Some(s, i, picks)
		if e != api.OK || len(v) > 2000 {
			continue
		}
		if s.Types[i].Kind == api.KindStruct || s.Types[i].Kind == api.KindVector || s.Types[i].Kind == api.KindList {
			asked++
			standsSo(t, s, i, layouts[i], v)
		}
	}
	if asked < 300 {
		t.Errorf("only %d values were asked for", asked)
	}
}

// standsSo tells where the parts of a value don't stand in its bytes as its type's layout says.
func standsSo(t *testing.T, s api.Schema, i int, l api.Layout, v []api.Node) {
	t.Helper()
	all, _ := plain.Encode(s, i, v)
	slots, fixed := l.Slots, l.Size
	if s.Types[i].Kind != api.KindStruct {
		slots = nil
		for k := range v[0].Kids {
			slot := l.Slots[0]
			slot.At += k * slot.Size
			slots = append(slots, slot)
		}
		fixed = len(slots) * l.Slots[0].Size
	}
	var lengths, told []int
	var parts [][]byte
	for k, slot := range slots {
		part := partOf(s, i, v, k)
		stands := all[slot.At : slot.At+slot.Size]
		if !slot.Variable {
			if !bytes.Equal(stands, part) {
				t.Errorf("P13.2: part %d of % x, by %+v: % x", k, all, slot, part)
			}
			continue
		}
		o, _ := le.Get(stands, 0, 4)
		lengths, told, parts = append(lengths, len(part)), append(told, int(o)), append(parts, part)
	}
	offsetsAre(t, fixed, lengths, told, api.OK)
	lengthsAre(t, fixed, told, len(all), lengths, 0, api.OK)
	for k, o := range told {
		if !bytes.Equal(all[o:o+lengths[k]], parts[k]) {
			t.Errorf("P13.3: variable part %d of % x, from %d on: % x", k, all, o, parts[k])
		}
	}
}

// partOf: the bytes of an item or a field of a value.
func partOf(s api.Schema, i int, v []api.Node, k int) []byte {
	of := s.Types[i].Elem
	if s.Types[i].Kind == api.KindStruct {
		of = s.Types[i].Parts[k].Type
	}
	begin, _ := value.Kid(v, 0, k)
	end, _ := value.Next(v, begin)
	b, _ := plain.Encode(s, of, v[begin:end])
	return b
}
