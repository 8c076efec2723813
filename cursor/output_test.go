package cursor_test

import (
	"math"
	"slices"
	"testing"

	"mortise/api"
	"mortise/cursor"
	"mortise/le"
)

func newOutput(t *testing.T, most int, parts ...string) *cursor.Output {
	t.Helper()
	o, e := cursor.To(most)
	if o == nil || e != api.OK {
		t.Fatalf("P3.8: To(%d): error %d", most, e)
	}
	for _, part := range parts {
		if e := o.Put([]byte(part)); e != api.OK {
			t.Fatalf("P3.9: Put(% x) of most %d: error %d", part, most, e)
		}
	}
	return o
}

func wantOutput(t *testing.T, promise string, o *cursor.Output, want string) {
	t.Helper()
	if b := o.Bytes(); string(b) != want || o.Len() != len(want) {
		t.Errorf("%s: the output is % x, Len %d, want % x", promise, b, o.Len(), want)
	}
}

func places() []int {
	return []int{math.MinInt, math.MinInt + 1, -9, -8, -1, 0, 1, 2, 3, 4, 5, 6, 7, 8, 9, 10, 11, 255, api.MaxNumber, api.Huge, math.MaxInt - 8, math.MaxInt - 7, math.MaxInt - 1, math.MaxInt}
}

func widths() []int {
	return []int{math.MinInt, -8, -1, 0, 1, 2, 3, 4, 5, 6, 7, 8, 9, 10, 256, math.MaxInt}
}

func numbers() []uint64 {
	list := []uint64{0, 1, 0x0102030405060708, math.MaxUint64}
	for width := 1; width < 8; width++ {
		over := uint64(1) << (8 * width)
		list = append(list, over-1, over)
	}
	return list
}

func TestNoCallOfAnOutputPanics(t *testing.T) { // P3.1
	for _, most := range places() {
		noPanic(t, func() { cursor.To(most) }, "To", most)
	}
	for _, text := range []string{"", "a", "abcdefghij"} {
		o := newOutput(t, 10, text)
		for _, at := range places() {
			for _, width := range widths() {
				for _, n := range numbers() {
					noPanic(t, func() { o.Patch(at, width, n) }, "Patch", at, width)
				}
			}
		}
		noPanic(t, func() { o.Put(nil) }, "Put")
		noPanic(t, func() { o.Put(make([]byte, 11)) }, "Put", 11)
		noPanic(t, func() { o.Bytes() }, "Bytes")
		noPanic(t, func() { o.Len() }, "Len")
	}
}

func TestTo(t *testing.T) { // P3.8
	for _, most := range []int{math.MinInt, -api.MaxNumber, -2, -1} {
		if o, e := cursor.To(most); o != nil || e != api.ErrPlace {
			t.Errorf("P3.8: To(%d): an output %v, error %d", most, o != nil, e)
		}
	}
	for _, most := range []int{0, 1, 2, api.MaxNumber, api.MaxNumber + 1, api.Huge, math.MaxInt - 1, math.MaxInt} {
		wantOutput(t, "P3.8", newOutput(t, most), "")
	}
}

func TestPutUpToTheMost(t *testing.T) { // P3.9, P3.1
	for most := range 12 {
		for first := range most + 1 {
			text := "abcdefghijkl"
			o := newOutput(t, most, text[:first])
			for n := range 13 {
				o := newOutput(t, most, text[:first])
				e := o.Put([]byte(text[:n]))
				if first+n <= most {
					if e != api.OK {
						t.Errorf("P3.9: Put of %d behind %d of most %d: error %d", n, first, most, e)
					}
					wantOutput(t, "P3.9", o, text[:first]+text[:n])
					continue
				}
				if e != api.ErrLong {
					t.Errorf("P3.9: Put of %d behind %d of most %d: error %d", n, first, most, e)
				}
				wantOutput(t, "P3.1", o, text[:first])
			}
			if e := o.Put([]byte(text[:most-first])); e != api.OK {
				t.Errorf("P3.9: Put up to the most, %d: error %d", most, e)
			}
			if none, empty, one := o.Put(nil), o.Put([]byte{}), o.Put([]byte{0}); none != api.OK || empty != api.OK || one != api.ErrLong {
				t.Errorf("P3.9: Put at the most, %d: errors %d, %d, %d", most, none, empty, one)
			}
			wantOutput(t, "P3.9", o, text[:first]+text[:most-first])
		}
	}
}

func TestPutGoesOnBehindErrLong(t *testing.T) { // P3.1, P3.9: what didn't fit has taken no room
	o := newOutput(t, 4, "ab")
	for range 3 {
		if e := o.Put([]byte("xyz")); e != api.ErrLong {
			t.Errorf("P3.9: Put: error %d", e)
		}
	}
	o.Put([]byte("c"))
	if e := o.Put([]byte("xy")); e != api.ErrLong {
		t.Errorf("P3.9: Put: error %d", e)
	}
	o.Put([]byte("d"))
	wantOutput(t, "P3.9", o, "abcd")
}

func TestPutUnderTheGreatestCap(t *testing.T) { // P3.9: no sum wraps
	o := newOutput(t, math.MaxInt)
	want := ""
	for _, part := range []string{"a", "", "bcdef", "ghijklmnopqrstuvwxyz"} {
		if e := o.Put([]byte(part)); e != api.OK {
			t.Errorf("P3.9: Put of %d: error %d", len(part), e)
		}
		want += part
		wantOutput(t, "P3.9", o, want)
	}
}

func TestPatchIsPutOfLe(t *testing.T) { // P3.9, P3.1
	for _, text := range []string{"", "a", "abc", "abcdefgh", "abcdefghij"} {
		for _, at := range places() {
			for _, width := range widths() {
				for _, n := range numbers() {
					o := newOutput(t, 20, text)
					want := []byte(text)
					e, wantError := o.Patch(at, width, n), le.Put(want, at, width, n)
					if e != wantError {
						t.Fatalf("P3.9: Patch(%d, %d, %d) of %d bytes: error %d, want %d", at, width, n, len(text), e, wantError)
					}
					wantOutput(t, "P3.9", o, string(want))
				}
			}
		}
	}
}

func TestPatchErrorsInTheirOrder(t *testing.T) { // P3.9, P3.1
	for _, c := range []struct {
		at, width int
		n         uint64
		e         api.Errno
	}{
		{0, 0, 0, api.ErrWidth}, {0, 9, 0, api.ErrWidth}, {0, -1, 0, api.ErrWidth}, {-1, 9, 0, api.ErrWidth}, {9, 0, 0, api.ErrWidth}, {math.MaxInt, math.MaxInt, 0, api.ErrWidth},
		{-1, 1, 0, api.ErrPlace}, {4, 1, 0, api.ErrPlace}, {3, 2, 0, api.ErrPlace}, {0, 5, 0, api.ErrPlace}, {math.MaxInt, 8, 0, api.ErrPlace}, {math.MinInt, 1, 0, api.ErrPlace},
		{4, 1, 256, api.ErrPlace}, {-1, 2, 65536, api.ErrPlace}, {math.MaxInt, 1, math.MaxUint64, api.ErrPlace},
		{0, 1, 256, api.ErrWidth}, {3, 1, 256, api.ErrWidth}, {2, 2, 65536, api.ErrWidth}, {0, 4, 1 << 32, api.ErrWidth},
	} {
		o := newOutput(t, 9, "abcd")
		if e := o.Patch(c.at, c.width, c.n); e != c.e {
			t.Errorf("P3.9: Patch(%d, %d, %d) of 4 bytes: error %d, want %d", c.at, c.width, c.n, e, c.e)
		}
		wantOutput(t, "P3.1", o, "abcd")
	}
}

func TestPatchOfTheLastBytes(t *testing.T) { // P3.9
	o := newOutput(t, 99, "abcdefghij")
	for width := 1; width <= 8; width++ {
		if e := o.Patch(10-width, width, 0); e != api.OK {
			t.Errorf("P3.9: Patch of the last %d bytes: error %d", width, e)
		}
		if e := o.Patch(11-width, width, 0); e != api.ErrPlace {
			t.Errorf("P3.9: Patch of %d bytes, one behind the last: error %d", width, e)
		}
		wantOutput(t, "P3.9", o, "abcdefghij"[:10-width]+string(make([]byte, width)))
	}
}

func TestPatchDoesNotReachSpareRoom(t *testing.T) { // P3.9: bytes that were not put are not there, whatever the cap
	o := newOutput(t, 1<<20)
	for k := range 100 {
		if e := o.Patch(k, 1, 7); e != api.ErrPlace {
			t.Fatalf("P3.9: Patch at the length, %d: error %d", k, e)
		}
		o.Put([]byte{byte(k)})
	}
}

func TestPutBehindAPatch(t *testing.T) { // P3.9
	o := newOutput(t, 8, "\x00\x00\x00\x00ab")
	o.Patch(0, 4, 0x01020304)
	o.Put([]byte("cd"))
	wantOutput(t, "P3.9", o, "\x04\x03\x02\x01abcd")
}

func TestWhatIsPutStays(t *testing.T) { // P3.1
	memory := []byte("abcdefgh")
	o := newOutput(t, 12)
	o.Put(memory[:3])
	o.Put([]byte("xyz"))
	o.Patch(0, 3, 0)
	o.Put(memory[2:8])
	if e := o.Put(memory[:3]); e != api.ErrLong {
		t.Errorf("P3.9: Put: error %d", e)
	}
	o.Patch(6, 6, 0)
	fill(o.Bytes(), '!')
	if string(memory) != "abcdefgh" {
		t.Errorf("P3.1: the memory of what was put is %q", memory)
	}
}

func TestWhatIsPutIsNotKept(t *testing.T) { // P3.1
	for _, spare := range []int{0, 1, 100} {
		part := make([]byte, 3, 3+spare)
		o := newOutput(t, 6)
		for _, word := range []string{"abc", "def"} {
			copy(part, word)
			o.Put(part)
			fill(part, '!')
		}
		wantOutput(t, "P3.1", o, "abcdef")
	}
}

func TestBytesAreNewMemory(t *testing.T) { // P3.1, P3.10
	o := newOutput(t, 9, "abc", "d")
	first, second := o.Bytes(), o.Bytes()
	fill(first, '!')
	if string(second) != "abcd" {
		t.Errorf("P3.1: two answers of Bytes share memory: %q", second)
	}
	wantOutput(t, "P3.1", o, "abcd")
	o.Put([]byte("ef"))
	wantOutput(t, "P3.1", o, "abcdef")
	o.Patch(0, 4, 0)
	o.Put([]byte("g"))
	if string(second) != "abcd" || !slices.Equal(first, []byte("!!!!")) {
		t.Errorf("P3.1: later calls have changed what Bytes answered: %q, %q", first, second)
	}
	if b := newOutput(t, 9).Bytes(); len(b) != 0 {
		t.Errorf("P3.10: Bytes of none: % x", b)
	}
}

func TestOutputsKnowNothingOfOneAnother(t *testing.T) { // P3.1
	part := make([]byte, 2, 16)
	copy(part, "ab")
	a, b, c := newOutput(t, 4), newOutput(t, 9), newOutput(t, 4)
	a.Put(part)
	b.Put(part)
	a.Put([]byte("AA"))
	b.Put([]byte("BB"))
	a.Patch(0, 1, 0)
	b.Put(a.Bytes())
	b.Patch(4, 2, 0)
	wantOutput(t, "P3.1", a, "\x00bAA")
	wantOutput(t, "P3.1", b, "abBB\x00\x00AA")
	wantOutput(t, "P3.1", c, "")
}

func TestOutputOfTheDocument(t *testing.T) { // the worked examples
	o := newOutput(t, 3)
	wantOutput(t, "P3.8", o, "")
	for k, c := range []struct {
		part string
		e    api.Errno
	}{{"\xaa\xbb", api.OK}, {"\xcc\xdd", api.ErrLong}, {"\xcc", api.OK}, {"", api.OK}} {
		if e := o.Put([]byte(c.part)); e != c.e {
			t.Errorf("P3.9: Put number %d: error %d, want %d", k, e, c.e)
		}
	}
	wantOutput(t, "P3.10", o, "\xaa\xbb\xcc")
	if a, b, c := o.Patch(1, 2, 513), o.Patch(2, 2, 0), o.Patch(0, 1, 256); a != api.OK || b != api.ErrPlace || c != api.ErrWidth {
		t.Errorf("P3.9: Patch: errors %d, %d, %d", a, b, c)
	}
	wantOutput(t, "P3.9", o, "\xaa\x01\x02")
}
