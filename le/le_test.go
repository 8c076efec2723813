package le_test

import (
	"bytes"
	"encoding/binary"
	"fmt"
	"math"
	"math/big"
	"slices"
	"testing"

	"mortise/api"
	"mortise/le"
)

const (
	huge     = api.Huge
	greatest = math.MaxInt
	least    = math.MinInt
)

// edgeWidths: all that are widths, and what lies around them and far off.
func edgeWidths() []int {
	return []int{least, -8, -1, 0, 1, 2, 3, 4, 5, 6, 7, 8, 9, 16, 64, greatest}
}

// edgePlaces: of a list of that length.
func edgePlaces(length int) []int {
	places := []int{least, least + 8, -9, -8, -1, greatest - 8, greatest - 7, greatest - 1, greatest}
	for at := range length + 3 {
		places = append(places, at)
	}
	return places
}

// edgeNumbers: of each width the greatest that just fits and the least that just doesn't, and others.
func edgeNumbers() []uint64 {
	numbers := []uint64{0, 1, 2, 127, 128, 258, 0x0102030405060708, 0xf1e2d3c4b5a69788, math.MaxUint64 - 1, math.MaxUint64}
	for width := 1; width < 8; width++ {
		over := uint64(1) << (8 * width)
		numbers = append(numbers, over-1, over, over+1)
	}
	return numbers
}

// edgeSizes: numbers that may be handed in as sizes.
func edgeSizes() []int {
	return []int{least, least + 1, -huge - 1, -huge, -5, -1, 0, 1, 2, 3, 7, 1<<31 - 1, 1 << 31, 1<<31 + 1, 1 << 33, huge / 3, huge/2 - 1, huge / 2, huge/2 + 1, huge - 2, huge - 1, huge, huge + 1, greatest - 1, greatest}
}

// filled: a list of that length with as much spare room again as it has bytes, and 8 more; and the whole of its memory.
func filled(length int) (list, whole []byte) {
	whole = make([]byte, 2*length+8)
	for k := range whole {
		whole[k] = byte(0x91 + 37*k)
	}
	return whole[:length], whole
}

func isWidth(width int) bool { return width >= 1 && width <= 8 }

// fits: by numbers without bounds.
func fits(n uint64, width int) bool {
	if !isWidth(width) {
		return false
	}
	bound := new(big.Int).Exp(big.NewInt(256), big.NewInt(int64(width)), nil)
	return new(big.Int).SetUint64(n).Cmp(bound) < 0
}

// placeFault: what the document says of a width and a place, by numbers without bounds.
func placeFault(length, at, width int) api.Errno {
	if !isWidth(width) {
		return api.ErrWidth
	}
	end := new(big.Int).Add(big.NewInt(int64(at)), big.NewInt(int64(width)))
	if at < 0 || end.Cmp(big.NewInt(int64(length))) > 0 {
		return api.ErrPlace
	}
	return api.OK
}

func bigSize(n int) *big.Int {
	switch {
	case n < 0:
		return big.NewInt(0)
	case n > huge:
		return big.NewInt(huge)
	}
	return big.NewInt(int64(n))
}

func saturated(n *big.Int) int {
	if n.Cmp(big.NewInt(huge)) > 0 {
		return huge
	}
	return int(n.Int64())
}

func bigSum(list ...int) int {
	sum := new(big.Int)
	for _, n := range list {
		sum.Add(sum, bigSize(n))
	}
	return saturated(sum)
}

func bigProduct(a, b int) int { return saturated(new(big.Int).Mul(bigSize(a), bigSize(b))) }

// noPanic: runs the call, and tells if it panics.
func noPanic(t *testing.T, call func(), name string, arguments ...any) {
	t.Helper()
	defer func() {
		if r := recover(); r != nil {
			t.Errorf("P1.1: %s%v panics: %v", name, arguments, r)
		}
	}()
	call()
}

func TestNoCallPanics(t *testing.T) { // P1.1
	for _, width := range edgeWidths() {
		for _, n := range edgeNumbers() {
			noPanic(t, func() { le.Fits(n, width) }, "Fits", n, width)
		}
		for _, length := range []int{0, 1, 7, 8, 9} {
			for _, at := range edgePlaces(length) {
				for _, n := range edgeNumbers() {
					noPanic(t, func() { le.Put(make([]byte, length), at, width, n) }, "Put", length, at, width, n)
				}
				noPanic(t, func() { le.Get(make([]byte, length), at, width) }, "Get", length, at, width)
			}
		}
		noPanic(t, func() { le.Put(nil, 0, width, 0) }, "Put of nil", width)
		noPanic(t, func() { le.Get(nil, 0, width) }, "Get of nil", width)
	}
	for _, a := range edgeSizes() {
		for _, b := range edgeSizes() {
			noPanic(t, func() { le.Plus(a, b) }, "Plus", a, b)
			noPanic(t, func() { le.Times(a, b) }, "Times", a, b)
		}
	}
}

func TestPutChangesOnlyTheBytesThatItNames(t *testing.T) { // P1.1, P1.3, P1.5
	for length := range 12 {
		for _, width := range edgeWidths() {
			for _, at := range edgePlaces(length) {
				for _, n := range edgeNumbers() {
					list, whole := filled(length)
					want := slices.Clone(whole)
					if e := le.Put(list, at, width, n); e == api.OK {
						var number [8]byte
						binary.LittleEndian.PutUint64(number[:], n)
						copy(want[at:], number[:width])
					}
					if !bytes.Equal(whole, want) {
						t.Fatalf("Put(%d bytes, %d, %d, %d): memory is % x, want % x", length, at, width, n, whole, want)
					}
				}
			}
		}
	}
}

func TestGetAndSizesChangeNothing(t *testing.T) { // P1.1
	for length := range 12 {
		for _, width := range edgeWidths() {
			for _, at := range edgePlaces(length) {
				list, whole := filled(length)
				before := slices.Clone(whole)
				le.Get(list, at, width)
				if !bytes.Equal(whole, before) {
					t.Fatalf("Get(%d bytes, %d, %d): memory is % x, was % x", length, at, width, whole, before)
				}
			}
		}
	}
	whole := append(edgeSizes(), edgeSizes()...)
	before := slices.Clone(whole)
	for length := range edgeSizes() {
		le.Plus(whole[:length]...)
		if !slices.Equal(whole, before) {
			t.Fatalf("Plus of the first %d: memory is %d, was %d", length, whole, before)
		}
	}
}

func TestNothingIsKept(t *testing.T) { // P1.1
	b := []byte{1, 2, 3}
	sizes := []int{1, 2, 3}
	for range 2 {
		if n, e := le.Get(b, 0, 3); n != 0x030201 || e != api.OK {
			t.Errorf("Get(% x, 0, 3) = %d, %d", b, n, e)
		}
		if sum := le.Plus(sizes...); sum != 6 {
			t.Errorf("Plus(%d) = %d", sizes, sum)
		}
		if e := le.Put(b, 1, 2, 0x0908); e != api.OK {
			t.Errorf("Put = %d", e)
		}
		sizes[0] = 70
		if n, e := le.Get(b, 0, 3); n != 0x090801 || e != api.OK {
			t.Errorf("Get behind a change: Get(% x, 0, 3) = %d, %d", b, n, e)
		}
		if sum := le.Plus(sizes...); sum != 75 {
			t.Errorf("Plus behind a change: Plus(%d) = %d", sizes, sum)
		}
		copy(b, []byte{1, 2, 3})
		sizes[0] = 1
	}
}

func TestFits(t *testing.T) { // P1.2
	for _, c := range []struct {
		n     uint64
		width int
		want  bool
	}{
		{255, 1, true},
		{256, 1, false},
		{65535, 2, true},
		{65536, 2, false},
		{1<<56 - 1, 7, true},
		{1 << 56, 7, false},
		{math.MaxUint64, 8, true},
		{0, 1, true},
		{0, 8, true},
		{0, 0, false},
		{0, 9, false},
		{0, -1, false},
		{0, least, false},
		{0, greatest, false},
	} {
		if is := le.Fits(c.n, c.width); is != c.want {
			t.Errorf("P1.2: Fits(%d, %d) = %v", c.n, c.width, is)
		}
	}
	for _, width := range edgeWidths() {
		for _, n := range edgeNumbers() {
			if is := le.Fits(n, width); is != fits(n, width) {
				t.Errorf("P1.2: Fits(%d, %d) = %v", n, width, is)
			}
		}
	}
}

func TestPutExamples(t *testing.T) { // P1.3
	for _, c := range []struct {
		b         []byte
		at, width int
		n         uint64
		e         api.Errno
		want      []byte
	}{
		{[]byte{0xaa, 0xbb, 0xcc, 0xdd}, 1, 2, 258, api.OK, []byte{0xaa, 2, 1, 0xdd}},
		{[]byte{0xaa, 0xbb}, 1, 1, 255, api.OK, []byte{0xaa, 0xff}},
		{[]byte{0xaa}, 0, 1, 0, api.OK, []byte{0}},
		{make([]byte, 8), 0, 8, 0x0102030405060708, api.OK, []byte{8, 7, 6, 5, 4, 3, 2, 1}},
		{[]byte{0xaa}, 0, 1, 256, api.ErrWidth, []byte{0xaa}},
		{[]byte{0xaa}, 1, 1, 0, api.ErrPlace, []byte{0xaa}},
		{[]byte{0xaa}, 0, 2, 0, api.ErrPlace, []byte{0xaa}},
		{[]byte{0xaa}, -1, 1, 0, api.ErrPlace, []byte{0xaa}},
		{[]byte{0xaa}, 0, 0, 0, api.ErrWidth, []byte{0xaa}},
		{[]byte{0xaa}, 0, 9, 0, api.ErrWidth, []byte{0xaa}},
		{[]byte{0xaa}, greatest, 8, 0, api.ErrPlace, []byte{0xaa}},
		{[]byte{0xaa}, least, 1, 0, api.ErrPlace, []byte{0xaa}},
		{nil, 0, 1, 0, api.ErrPlace, nil},
		// The order: a width that is none, then the place, then a number that doesn't fit.
		{[]byte{0xaa}, -1, 9, 0, api.ErrWidth, []byte{0xaa}},
		{[]byte{0xaa}, greatest, 0, 1, api.ErrWidth, []byte{0xaa}},
		{[]byte{0xaa}, 1, 1, 256, api.ErrPlace, []byte{0xaa}},
		{[]byte{0xaa}, -1, 2, 65536, api.ErrPlace, []byte{0xaa}},
	} {
		b := slices.Clone(c.b)
		if e := le.Put(b, c.at, c.width, c.n); e != c.e || !bytes.Equal(b, c.want) {
			t.Errorf("P1.3: Put(% x, %d, %d, %d) = %d, % x", c.b, c.at, c.width, c.n, e, b)
		}
	}
}

func TestGetExamples(t *testing.T) { // P1.3
	for _, c := range []struct {
		b         []byte
		at, width int
		n         uint64
		e         api.Errno
	}{
		{[]byte{0xaa, 2, 1, 0xdd}, 1, 2, 258, api.OK},
		{[]byte{0xaa, 2, 1, 0xdd}, 0, 4, 3707830954, api.OK},
		{[]byte{0xaa, 2, 1, 0xdd}, 3, 1, 0xdd, api.OK},
		{bytes.Repeat([]byte{0xff}, 8), 0, 8, math.MaxUint64, api.OK},
		{nil, 0, 1, 0, api.ErrPlace},
		{[]byte{1, 2}, 1, 2, 0, api.ErrPlace},
		{[]byte{1, 2}, 2, 1, 0, api.ErrPlace},
		{[]byte{1, 2}, -1, 1, 0, api.ErrPlace},
		{[]byte{1, 2}, greatest, 1, 0, api.ErrPlace},
		{[]byte{1, 2}, least, 8, 0, api.ErrPlace},
		{[]byte{1, 2}, 0, 0, 0, api.ErrWidth},
		{bytes.Repeat([]byte{1}, 9), 0, 9, 0, api.ErrWidth},
		{[]byte{1, 2}, -1, -1, 0, api.ErrWidth},
		{nil, greatest, 9, 0, api.ErrWidth},
	} {
		if n, e := le.Get(c.b, c.at, c.width); n != c.n || e != c.e {
			t.Errorf("P1.3: Get(% x, %d, %d) = %d, %d", c.b, c.at, c.width, n, e)
		}
	}
}

func TestWhatPutAndGetRefuse(t *testing.T) { // P1.3, and P1.1: beside an error 0
	for length := range 12 {
		for _, width := range edgeWidths() {
			for _, at := range edgePlaces(length) {
				want := placeFault(length, at, width)
				list, _ := filled(length)
				n, e := le.Get(list, at, width)
				if e != want || e != api.OK && n != 0 {
					t.Errorf("P1.3: Get(%d bytes, %d, %d) = %d, %d, want error %d", length, at, width, n, e, want)
				}
				for _, n := range edgeNumbers() {
					want := want
					if want == api.OK && !fits(n, width) {
						want = api.ErrWidth
					}
					if e := le.Put(list, at, width, n); e != want {
						t.Errorf("P1.3: Put(%d bytes, %d, %d, %d) = %d, want %d", length, at, width, n, e, want)
					}
				}
			}
		}
	}
}

func TestPlus(t *testing.T) { // P1.4
	for _, c := range []struct {
		list []int
		want int
	}{
		{nil, 0},
		{[]int{}, 0},
		{[]int{9}, 9},
		{[]int{-9}, 0},
		{[]int{3, -5, 4}, 7},
		{[]int{huge, 1}, huge},
		{[]int{huge - 1, 1}, huge},
		{[]int{huge - 2, 1}, huge - 1},
		{[]int{huge}, huge},
		{[]int{huge + 1}, huge},
		{[]int{greatest, greatest}, huge},
		{[]int{huge, huge, huge, huge}, huge},
		{[]int{huge, -huge}, huge},
		{[]int{least, least, 1}, 1},
	} {
		if is := le.Plus(c.list...); is != c.want {
			t.Errorf("P1.4: Plus(%d) = %d, want %d", c.list, is, c.want)
		}
	}
	for _, a := range edgeSizes() {
		for _, b := range edgeSizes() {
			for _, c := range edgeSizes() {
				if is, want := le.Plus(a, b, c), bigSum(a, b, c); is != want {
					t.Errorf("P1.4: Plus(%d, %d, %d) = %d, want %d", a, b, c, is, want)
				}
			}
		}
	}
}

func TestTimes(t *testing.T) { // P1.4
	for _, c := range [][3]int{
		{0, huge, 0},
		{0, 0, 0},
		{3, 4, 12},
		{1 << 31, 1 << 31, huge},
		{1 << 31, 1<<31 - 1, 1<<62 - 1<<31},
		{-1, 7, 0},
		{-1, -1, 0},
		{least, greatest, 0},
		{huge, huge, huge},
		{huge, 1, huge},
		{huge - 1, 1, huge - 1},
		{huge + 1, 1, huge},
		{greatest, 1, huge},
		{1 << 32, 1 << 32, huge}, // the low half alone is 0
		{1 << 33, 1 << 31, huge},
		{3, huge / 3, huge - 1},
		{5, (huge + 1) / 5, huge}, // the product is one above Huge
	} {
		if is := le.Times(c[0], c[1]); is != c[2] {
			t.Errorf("P1.4: Times(%d, %d) = %d, want %d", c[0], c[1], is, c[2])
		}
	}
	for _, a := range edgeSizes() {
		for _, b := range edgeSizes() {
			if is, want := le.Times(a, b), bigProduct(a, b); is != want {
				t.Errorf("P1.4: Times(%d, %d) = %d, want %d", a, b, is, want)
			}
		}
	}
}

func TestThereAndBack(t *testing.T) { // P1.5
	for width := 1; width <= 8; width++ {
		for at := 0; at+width <= 11; at++ {
			for _, n := range edgeNumbers() {
				if !fits(n, width) {
					continue
				}
				list, whole := filled(11)
				before := slices.Clone(whole)
				if e := le.Put(list, at, width, n); e != api.OK {
					t.Fatalf("P1.5: Put(11 bytes, %d, %d, %d) = %d", at, width, n, e)
				}
				if is, e := le.Get(list, at, width); is != n || e != api.OK {
					t.Errorf("P1.5: behind Put(11 bytes, %d, %d, %d): Get = %d, %d", at, width, n, is, e)
				}
				if !bytes.Equal(whole[:at], before[:at]) || !bytes.Equal(whole[at+width:], before[at+width:]) {
					t.Errorf("P1.5: Put(11 bytes, %d, %d, %d): memory is % x, was % x", at, width, n, whole, before)
				}
			}
		}
	}
}

func TestPartsTellTheWhole(t *testing.T) { // P1.5
	get := func(b []byte, at, width int) uint64 {
		n, e := le.Get(b, at, width)
		if e != api.OK {
			t.Fatalf("P1.5: Get(% x, %d, %d): error %d", b, at, width, e)
		}
		return n
	}
	list, _ := filled(19)
	for at := 0; at+8 <= len(list); at++ {
		for w := 2; w <= 8; w++ {
			for v := 1; v < w; v++ {
				whole, front, back := get(list, at, w), get(list, at, v), get(list, at+v, w-v)
				if whole != front+back<<(8*v) {
					t.Errorf("P1.5: Get(% x, %d, %d) = %d, its first %d bytes %d, the others %d", list, at, w, whole, v, front, back)
				}
			}
		}
	}
}

func TestPlusInAnyOrderAndAnyCut(t *testing.T) { // P1.6
	sizes := edgeSizes()
	backwards := slices.Clone(sizes)
	slices.Reverse(backwards)
	small := []int{huge / 2, -3, 5, least, huge/4 - 1, 0, 1, 9, huge / 8}
	for _, list := range [][]int{sizes, backwards, small} {
		all := le.Plus(list...)
		for cut := range len(list) + 1 {
			front, back := list[:cut], list[cut:]
			if is := le.Plus(le.Plus(front...), le.Plus(back...)); is != all {
				t.Errorf("P1.6: Plus(%d) = %d, cut at %d: %d", list, all, cut, is)
			}
			if is := le.Plus(slices.Concat(back, front)...); is != all {
				t.Errorf("P1.6: Plus(%d) = %d, turned at %d: %d", list, all, cut, is)
			}
		}
		for k, part := range list {
			if all < bigSum(part) {
				t.Errorf("P1.6: Plus(%d) = %d, below its part %d", list, all, k)
			}
		}
	}
}

func TestLawsOfSizes(t *testing.T) { // P1.6
	for _, a := range edgeSizes() {
		for _, b := range edgeSizes() {
			product := le.Times(a, b)
			if product != le.Times(b, a) {
				t.Errorf("P1.6: Times(%d, %d) = %d, turned %d", a, b, product, le.Times(b, a))
			}
			if le.Plus(a, b) != le.Plus(b, a) {
				t.Errorf("P1.6: Plus(%d, %d) = %d, turned %d", a, b, le.Plus(a, b), le.Plus(b, a))
			}
			if a > 0 && b > 0 && product < max(bigSum(a), bigSum(b)) {
				t.Errorf("P1.6: Times(%d, %d) = %d, below a factor", a, b, product)
			}
			for _, c := range edgeSizes() {
				checkLawsOfThree(t, a, b, c)
			}
		}
	}
}

func checkLawsOfThree(t *testing.T, a, b, c int) {
	t.Helper()
	name := fmt.Sprintf("of %d, %d, %d", a, b, c)
	if left, right := le.Times(a, le.Plus(b, c)), le.Plus(le.Times(a, b), le.Times(a, c)); left != right {
		t.Errorf("P1.6 %s: a product with a sum is %d, the sum of products %d", name, left, right)
	}
	if left, right := le.Times(le.Times(a, b), c), le.Times(a, le.Times(b, c)); left != right {
		t.Errorf("P1.6 %s: products are %d and %d", name, left, right)
	}
	if left, right := le.Plus(le.Plus(a, b), c), le.Plus(a, le.Plus(b, c)); left != right {
		t.Errorf("P1.6 %s: sums are %d and %d", name, left, right)
	}
}
