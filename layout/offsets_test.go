package layout_test

import (
	"math"
	"slices"
	"testing"

	"mortise/api"
)

// bound: the greatest offset.
const bound = 1<<32 - 1

// P13.3: the chapter's examples.
func TestOffsetsExamples(t *testing.T) {
	offsetsAre(t, 9, []int{3, 0, 2}, []int{9, 12, 12}, api.OK)
	offsetsAre(t, -1, []int{}, nil, api.ErrPlace)
	offsetsAre(t, 0, []int{-1}, nil, api.ErrPlace)
	offsetsAre(t, bound, []int{1, 0}, nil, api.ErrBig)
}

// P13.3: ordinary ones, written out.
func TestOffsetsOrdinary(t *testing.T) {
	offsetsAre(t, 4, []int{7}, []int{4}, api.OK)
	offsetsAre(t, 8, []int{7, 5}, []int{8, 15}, api.OK)
	offsetsAre(t, 0, []int{0}, []int{0}, api.OK)
	offsetsAre(t, 0, []int{0, 0, 0}, []int{0, 0, 0}, api.OK)
	offsetsAre(t, 0, []int{1, 0, 0, 1, 1}, []int{0, 1, 1, 1, 2}, api.OK)
	offsetsAre(t, 100, []int{1, 20, 300, 4000}, []int{100, 101, 121, 421}, api.OK)
}

// P13.3: of no lengths no offsets, and so none too great, whatever is fixed.
func TestOffsetsOfNone(t *testing.T) {
	for _, fixed := range []int{0, 1, 9, bound, bound + 1, huge, math.MaxInt} {
		offsetsAre(t, fixed, nil, nil, api.OK)
		offsetsAre(t, fixed, []int{}, nil, api.OK)
	}
	for _, fixed := range []int{-1, -2, -bound, math.MinInt} {
		offsetsAre(t, fixed, nil, nil, api.ErrPlace)
		offsetsAre(t, fixed, []int{}, nil, api.ErrPlace)
	}
}

// P13.3: the greatest offset, and one above it, reached by what is fixed, by a length and by both.
func TestOffsetsAtTheBound(t *testing.T) {
	offsetsAre(t, bound, []int{0}, []int{bound}, api.OK)
	offsetsAre(t, bound, []int{0, 0, 0}, []int{bound, bound, bound}, api.OK)
	offsetsAre(t, bound+1, []int{0}, nil, api.ErrBig)
	offsetsAre(t, 0, []int{bound, 0}, []int{0, bound}, api.OK)
	offsetsAre(t, 0, []int{bound + 1, 0}, nil, api.ErrBig)
	offsetsAre(t, 1, []int{bound - 1, 0}, []int{1, bound}, api.OK)
	offsetsAre(t, 1, []int{bound, 0}, nil, api.ErrBig)
	offsetsAre(t, 1<<31, []int{1<<31 - 1, 0, 7}, []int{1 << 31, bound, bound}, api.OK)
	offsetsAre(t, 1<<31, []int{1 << 31, 0}, nil, api.ErrBig)
	offsetsAre(t, 1<<31, []int{1<<31 - 1, 1, 0}, nil, api.ErrBig)
}

// P13.3: where the last part leads to is no offset.
func TestOffsetsLastLength(t *testing.T) {
	for _, last := range []int{0, 1, bound, bound + 1, huge, math.MaxInt - bound, math.MaxInt - 1, math.MaxInt} {
		offsetsAre(t, bound, []int{last}, []int{bound}, api.OK)
		offsetsAre(t, 9, []int{3, last}, []int{9, 12}, api.OK)
		offsetsAre(t, 0, []int{bound, last}, []int{0, bound}, api.OK)
	}
	offsetsAre(t, 9, []int{3, math.MaxInt, 0}, nil, api.ErrBig)
}

// P13.3: sums that would wrap, to numbers below 0 and all the way round to small ones.
func TestOffsetsWrap(t *testing.T) {
	offsetsAre(t, 1, []int{math.MaxInt, 1}, nil, api.ErrBig)
	offsetsAre(t, 9, []int{math.MaxInt, math.MaxInt, 2}, nil, api.ErrBig)
	offsetsAre(t, 9, []int{math.MaxInt, math.MaxInt, 2, 0, 0}, nil, api.ErrBig)
	offsetsAre(t, 0, []int{huge, huge, huge, huge, 0}, nil, api.ErrBig)
	offsetsAre(t, math.MaxInt, []int{math.MaxInt, math.MaxInt}, nil, api.ErrBig)
	offsetsAre(t, math.MaxInt, []int{1}, nil, api.ErrBig)
	offsetsAre(t, bound, []int{math.MaxInt, 0}, nil, api.ErrBig)
	offsetsAre(t, bound, []int{math.MaxInt - bound + 1, 0}, nil, api.ErrBig)
	// In 32 bits these would be small again.
	offsetsAre(t, 9, []int{1 << 32, 0}, nil, api.ErrBig)
	offsetsAre(t, 1<<32+9, []int{0}, nil, api.ErrBig)
}

// P13.3: a number below 0, in each place, is told ahead of offsets that are too great.
func TestOffsetsBelowZero(t *testing.T) {
	for _, below := range []int{-1, -2, -bound, -huge, math.MinInt + 1, math.MinInt} {
		offsetsAre(t, below, []int{0}, nil, api.ErrPlace)
		offsetsAre(t, below, []int{math.MaxInt, 1, 1}, nil, api.ErrPlace)
		for at := range 5 {
			l := []int{1, 2, 3, 4, 5}
			l[at] = below
			offsetsAre(t, 9, l, nil, api.ErrPlace)
			offsetsAre(t, math.MaxInt, l, nil, api.ErrPlace)
			offsetsAre(t, below, l, nil, api.ErrPlace)
			l = slices.Repeat([]int{math.MaxInt}, 5)
			l[at] = below
			offsetsAre(t, 0, l, nil, api.ErrPlace)
			offsetsAre(t, bound+1, l, nil, api.ErrPlace)
		}
	}
}

// P13.3: every list of at most three numbers at the edges, behind each of them.
func TestOffsetsEdges(t *testing.T) {
	for _, l := range listsOf(fewNumbers(), 3) {
		for _, fixed := range fewNumbers() {
			offsetsAll(t, fixed, l)
		}
	}
	for _, l := range listsOf(strangeNumbers(), 2) {
		for _, fixed := range strangeNumbers() {
			offsetsAll(t, fixed, l)
		}
	}
}

// P13.3: lists that look like chance, which come to the bound at any place or never.
func TestOffsetsChance(t *testing.T) {
	d := dice(21)
	met := map[api.Errno]int{}
	for n := range 20000 {
		var l []int
		for range d.below(40) {
			l = append(l, d.number(1+n%40))
		}
		fixed := d.number(33)
		if n%50 == 0 && len(l) > 0 {
			l[d.below(len(l))] = -1 - d.number(62)
		}
		_, e := offsetsOf(fixed, l)
		met[e]++
		offsetsAll(t, fixed, l)
	}
	for _, e := range []api.Errno{api.OK, api.ErrPlace, api.ErrBig} {
		if met[e] < 100 {
			t.Errorf("error %d was met only %d times", e, met[e])
		}
	}
}

// P13.3: many lengths: the bound is met late, or not at all.
func TestOffsetsMany(t *testing.T) {
	for _, each := range []int{0, 1, 4095, 4096, 4097} {
		l := slices.Repeat([]int{each}, 1<<20)
		offsetsAll(t, 0, l)
		offsetsAll(t, 4<<20, l)
		l[len(l)-1] = -1
		offsetsAre(t, 0, l, nil, api.ErrPlace)
	}
}
