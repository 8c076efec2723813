package layout_test

import (
	"math"
	"slices"
	"testing"

	"mortise/api"
)

// P13.4: the chapter's examples.
func TestLengthsExamples(t *testing.T) {
	lengthsAre(t, 9, []int{9, 12, 12}, 14, []int{3, 0, 2}, 0, api.OK)
	lengthsAre(t, 9, []int{9, 8}, 14, nil, 1, api.ErrOffset)
	lengthsAre(t, 9, []int{8}, 14, nil, 0, api.ErrOffset)
	lengthsAre(t, 9, []int{9, 15}, 14, nil, 1, api.ErrOffset)
	lengthsAre(t, 9, []int{}, 3, nil, 0, api.OK)
}

// P13.4: ordinary ones, written out.
func TestLengthsOrdinary(t *testing.T) {
	lengthsAre(t, 4, []int{4}, 11, []int{7}, 0, api.OK)
	lengthsAre(t, 8, []int{8, 15}, 20, []int{7, 5}, 0, api.OK)
	lengthsAre(t, 0, []int{0}, 0, []int{0}, 0, api.OK)
	lengthsAre(t, 0, []int{0, 1, 1, 1, 2}, 3, []int{1, 0, 0, 1, 1}, 0, api.OK)
	lengthsAre(t, 100, []int{100, 101, 121, 421}, 4421, []int{1, 20, 300, 4000}, 0, api.OK)
}

// P13.4: of no offsets no lengths, whatever is fixed and wherever the end is.
func TestLengthsOfNone(t *testing.T) {
	for _, end := range strangeNumbers() {
		for _, fixed := range strangeNumbers() {
			e := api.OK
			if fixed < 0 {
				e = api.ErrPlace
			}
			lengthsAre(t, fixed, nil, end, nil, 0, e)
			lengthsAre(t, fixed, []int{}, end, nil, 0, e)
		}
	}
}

// P13.4: ErrPlace at 0 comes ahead of all that is wrong with offsets.
func TestLengthsFixedBelowZero(t *testing.T) {
	for _, fixed := range []int{-1, -2, -9, -bound, math.MinInt + 1, math.MinInt} {
		for _, l := range [][]int{{fixed}, {fixed, fixed}, {0}, {9, 8}, {9, 12, 15}, {math.MaxInt, math.MinInt}} {
			for _, end := range []int{math.MinInt, fixed, -1, 0, 14, math.MaxInt} {
				lengthsAre(t, fixed, l, end, nil, 0, api.ErrPlace)
			}
		}
	}
}

// P13.4: the first offset is what is fixed: neither greater nor smaller, also where it is below the end, below 0 or very great.
func TestLengthsFirst(t *testing.T) {
	for _, first := range []int{math.MinInt, -1, 0, 1, 8, 10, 13, 14, 15, bound, math.MaxInt} {
		lengthsAre(t, 9, []int{first}, 14, nil, 0, api.ErrOffset)
		lengthsAre(t, 9, []int{first}, math.MaxInt, nil, 0, api.ErrOffset)
		lengthsAre(t, 9, []int{first, 12}, 14, nil, 0, api.ErrOffset)
		lengthsAre(t, 9, []int{first, 9, 8}, 14, nil, 0, api.ErrOffset)
	}
	lengthsAre(t, 0, []int{1}, 14, nil, 0, api.ErrOffset)
	lengthsAre(t, 0, []int{-1}, 14, nil, 0, api.ErrOffset)
	// Only the first: a further one may be what is fixed, or not.
	lengthsAre(t, 9, []int{9, 9, 10}, 14, []int{0, 1, 4}, 0, api.OK)
}

// P13.4: offsets that fall, by one and by much, in each place.
func TestLengthsFall(t *testing.T) {
	right := []int{9, 12, 12, 20, 20}
	lengthsAre(t, 9, right, 30, []int{3, 0, 8, 0, 10}, 0, api.OK)
	for at := range right {
		for _, o := range []int{8, 1, 0, -1, -9, math.MinInt} {
			l := slices.Clone(right)
			l[at] = o
			lengthsAre(t, 9, l, 30, nil, at, api.ErrOffset)
		}
	}
	lengthsAre(t, 9, []int{9, 12, 11, 20, 20}, 30, nil, 2, api.ErrOffset)
	lengthsAre(t, 9, []int{9, 12, 12, 20, 19}, 30, nil, 4, api.ErrOffset)
	lengthsAre(t, 9, []int{9, 12, 12, 20, 12}, 30, nil, 4, api.ErrOffset)
}

// P13.4: offsets that are equal, that lie at the end, and one above it.
func TestLengthsAtTheEnd(t *testing.T) {
	lengthsAre(t, 9, []int{9}, 9, []int{0}, 0, api.OK)
	lengthsAre(t, 9, []int{9, 9, 9}, 9, []int{0, 0, 0}, 0, api.OK)
	lengthsAre(t, 9, []int{9, 9, 9}, 10, []int{0, 0, 1}, 0, api.OK)
	lengthsAre(t, 9, []int{9, 14}, 14, []int{5, 0}, 0, api.OK)
	lengthsAre(t, 9, []int{9, 14, 14}, 14, []int{5, 0, 0}, 0, api.OK)
	lengthsAre(t, 9, []int{9, 14, 15}, 14, nil, 2, api.ErrOffset)
	lengthsAre(t, 9, []int{9, 14, 15, 16}, 14, nil, 2, api.ErrOffset)
	lengthsAre(t, 9, []int{9, 15, 14}, 14, nil, 1, api.ErrOffset)
	lengthsAre(t, 9, []int{9, math.MaxInt, 12}, 14, nil, 1, api.ErrOffset)
}

// P13.4: an end below the fixed part, or below 0: already the first offset is above it.
func TestLengthsEndBefore(t *testing.T) {
	for _, end := range []int{8, 1, 0, -1, -9, -bound, math.MinInt + 1, math.MinInt} {
		lengthsAre(t, 9, []int{9}, end, nil, 0, api.ErrOffset)
		lengthsAre(t, 9, []int{9, 12}, end, nil, 0, api.ErrOffset)
		lengthsAre(t, 9, []int{9, 3}, end, nil, 0, api.ErrOffset)
	}
	lengthsAre(t, 0, []int{0}, -1, nil, 0, api.ErrOffset)
	lengthsAre(t, math.MaxInt, []int{math.MaxInt}, math.MinInt, nil, 0, api.ErrOffset)
}

// P13.4: offsets and ends above what four bytes hold, up to the greatest ints.
func TestLengthsGreat(t *testing.T) {
	most := math.MaxInt
	lengthsAre(t, 0, []int{0}, most, []int{most}, 0, api.OK)
	lengthsAre(t, 0, []int{0, most}, most, []int{most, 0}, 0, api.OK)
	lengthsAre(t, most, []int{most, most}, most, []int{0, 0}, 0, api.OK)
	lengthsAre(t, most-1, []int{most - 1, most}, most, []int{1, 0}, 0, api.OK)
	lengthsAre(t, bound+1, []int{bound + 1, bound + 3}, huge, []int{2, huge - bound - 3}, 0, api.OK)
	lengthsAre(t, most, []int{most}, most-1, nil, 0, api.ErrOffset)
	lengthsAre(t, 0, []int{0, most}, most-1, nil, 1, api.ErrOffset)
	lengthsAre(t, 0, []int{0, most, most - 1}, most, nil, 2, api.ErrOffset)
	lengthsAre(t, 0, []int{0, most, math.MinInt}, most, nil, 2, api.ErrOffset)
	// In 32 bits these would be what is fixed, or fall.
	lengthsAre(t, 9, []int{1<<32 + 9}, most, nil, 0, api.ErrOffset)
	lengthsAre(t, 9, []int{9, 1 << 32}, most, []int{1<<32 - 9, most - 1<<32}, 0, api.OK)
}

// P13.4: the first offset that is otherwise, where later ones are too, for each of the reasons.
func TestLengthsFirstWrong(t *testing.T) {
	right := []int{9, 10, 11, 12, 13, 14}
	wrong := []int{math.MinInt, -1, 8, 15, math.MaxInt}
	for at := range right {
		for _, o := range wrong {
			for later := at; later < len(right); later++ {
				for _, p := range wrong {
					l := slices.Clone(right)
					l[later], l[at] = p, o
					lengthsAre(t, 9, l, 14, nil, at, api.ErrOffset)
				}
			}
		}
	}
}

// P13.4: every list of at most three numbers at the edges, with each of them as what is fixed and as the end.
func TestLengthsEdges(t *testing.T) {
	numbers := []int{math.MinInt, -1, 0, 1, 9, bound, bound + 1, huge, math.MaxInt - 1, math.MaxInt}
	for _, l := range listsOf(numbers, 3) {
		for _, fixed := range numbers {
			for _, end := range numbers {
				lengthsAll(t, fixed, l, end)
			}
		}
	}
	// Small numbers: every order, every equal pair.
	for _, l := range listsOf([]int{-1, 0, 1, 2, 3}, 4) {
		for fixed := -1; fixed <= 2; fixed++ {
			for end := -1; end <= 3; end++ {
				lengthsAll(t, fixed, l, end)
			}
		}
	}
}

// P13.4: lists that look like chance, right ones and such of which one number is another.
func TestLengthsChance(t *testing.T) {
	d := dice(22)
	met := map[api.Errno]int{}
	for n := range 20000 {
		fixed := d.number(1 + n%61)
		at := fixed
		var l []int
		for range d.below(20) {
			l = append(l, at)
			at += d.number(1+n%55) * d.below(2)
		}
		end := at + d.number(1+n%60)*d.below(2)
		if n%2 == 0 && len(l) > 0 {
			l[d.below(len(l))] += (1 - 2*d.below(2)) * d.number(1+n%60)
		}
		if n%7 == 0 {
			end -= d.number(1 + n%60)
		}
		_, _, e := lengthsOf(fixed, l, end)
		met[e]++
		lengthsAll(t, fixed, l, end)
	}
	if met[api.OK] < 5000 || met[api.ErrOffset] < 3000 {
		t.Errorf("of %v there are too few", met)
	}
}

// P13.4: many offsets, the last of them right or otherwise.
func TestLengthsMany(t *testing.T) {
	n := 1 << 20
	l := make([]int, n)
	for i := range l {
		l[i] = 7 + i*5
	}
	want := slices.Repeat([]int{5}, n)
	lengthsAre(t, 7, l, 7+5*n, want, 0, api.OK)
	l[n-1] -= 6
	lengthsAre(t, 7, l, 7+5*n, nil, n-1, api.ErrOffset)
	l[n-1] = 7 + 5*n + 1
	lengthsAre(t, 7, l, 7+5*n, nil, n-1, api.ErrOffset)
}
