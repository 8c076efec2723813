package varint_test

import (
	"bytes"
	"encoding/binary"
	"fmt"
	"math"
	"slices"
	"testing"

	"mortise/api"
	"mortise/varint"
)

// edgeNumbers: of each count of groups the greatest number that has it and the least that has one more, and others.
func edgeNumbers() []uint64 {
	numbers := []uint64{0, 1, 2, 44, 127, 128, 129, 255, 256, 300, 0x0102030405060708, 0xf1e2d3c4b5a69788, 1 << 62, 1<<63 - 1, 1 << 63, 1<<63 + 1, math.MaxUint64 - 1, math.MaxUint64}
	for bits := 1; bits < 64; bits++ {
		over := uint64(1) << bits
		numbers = append(numbers, over-1, over, over+1)
	}
	slices.Sort(numbers)
	return slices.Compact(numbers)
}

// form: a number's bytes, by division.
func form(n uint64) []byte {
	var b []byte
	for n > 127 {
		b = append(b, byte(n%128)+128)
		n /= 128
	}
	return append(b, byte(n))
}

// edgeInputs: every list of up to three of the bytes that matter, behind so many bytes that go on.
func edgeInputs() [][]byte {
	inputs := [][]byte{nil, {}}
	for _, front := range []byte{0x80, 0xff, 0x81} {
		for length := range 13 {
			head := bytes.Repeat([]byte{front}, length)
			inputs = append(inputs, head)
			for _, a := range edgeBytes() {
				inputs = append(inputs, slices.Concat(head, []byte{a}))
				for _, b := range edgeBytes() {
					inputs = append(inputs, slices.Concat(head, []byte{a, b}), slices.Concat(head, []byte{a, b, 0x80, 1}))
				}
			}
		}
	}
	return inputs
}

func edgeBytes() []byte { return []byte{0, 1, 2, 3, 0x7f, 0x80, 0x81, 0x82, 0xac, 0xff} }

type got struct {
	n    uint64
	used int
	e    api.Errno
}

func get(b []byte) got {
	n, used, e := varint.Get(b)
	return got{n, used, e}
}

// wanted: what Get answers, as the document says it: which byte shows a fault, which is the last one.
func wanted(b []byte) got {
	for at, c := range b {
		tenth := at == 9 && c > 1
		needless := at >= 1 && c == 0
		if tenth || needless {
			return got{0, at, api.ErrForm}
		}
		if c < 0x80 {
			n := uint64(0)
			for k := at; k >= 0; k-- {
				n = n*128 + uint64(b[k]%128)
			}
			return got{n, at + 1, api.OK}
		}
	}
	return got{0, len(b), api.ErrShort}
}

// noPanic: runs the call, and tells if it panics.
func noPanic(t *testing.T, call func(), name string, argument any) {
	t.Helper()
	defer func() {
		if r := recover(); r != nil {
			t.Errorf("P2.1: %s of %v panics: %v", name, argument, r)
		}
	}()
	call()
}

func TestNoCallPanics(t *testing.T) { // P2.1
	for _, n := range edgeNumbers() {
		noPanic(t, func() { varint.Size(n) }, "Size", n)
		noPanic(t, func() { varint.Put(n) }, "Put", n)
	}
	for _, b := range edgeInputs() {
		noPanic(t, func() { varint.Get(b) }, "Get", b)
		noPanic(t, func() { varint.Load(b) }, "Load", b)
		noPanic(t, func() {
			r := varint.New()
			for _, c := range b {
				r.Byte(c)
				r.N()
				r.Read()
			}
		}, "a reader", b)
	}
}

func TestWhatIsHandedInStays(t *testing.T) { // P2.1
	for _, b := range edgeInputs() {
		whole := slices.Concat(b, []byte{0x80, 0, 1, 2, 0xff})
		before := slices.Clone(whole)
		varint.Get(whole[:len(b)])
		varint.Load(whole[:len(b)])
		if !bytes.Equal(whole, before) {
			t.Fatalf("P2.1: Get or Load of % x: memory is % x, was % x", b, whole, before)
		}
	}
}

func TestSpareRoomIsNotRead(t *testing.T) { // P2.1, P2.3, P2.5
	whole := []byte{0xac, 2, 0, 0}
	if is := get(whole[:1]); is != (got{0, 1, api.ErrShort}) {
		t.Errorf("P2.3: Get of ac with 02 in the spare room: %v", is)
	}
	r, e := varint.Load(whole[:1])
	if e != api.OK || r.N() != 44 {
		t.Errorf("P2.5: Load of ac with 02 in the spare room: error %d", e)
	}
}

func TestNothingIsKept(t *testing.T) { // P2.1
	b := []byte{0xac, 0x82}
	r, e := varint.Load(b)
	if e != api.OK {
		t.Fatalf("P2.5: Load of % x: error %d", b, e)
	}
	b[0], b[1] = 0xff, 0xff
	if r.N() != 300 || !bytes.Equal(r.Read(), []byte{0xac, 0x82}) {
		t.Errorf("P2.1: a reader behind a change of what was loaded: N %d, Read % x", r.N(), r.Read())
	}
	if is := get(b[:2]); is != (got{0, 2, api.ErrShort}) {
		t.Errorf("P2.1: Get(% x) = %v", b, is)
	}
	b[1] = 1
	if is := get(b[:2]); is != (got{255, 2, api.OK}) {
		t.Errorf("P2.1: Get(% x) = %v", b, is)
	}
}

// scribble: over a list, and its spare room.
func scribble(b []byte) {
	b = b[:cap(b)]
	for k := range b {
		b[k] = 0xee
	}
}

func TestWhatIsHandedOutIsNew(t *testing.T) { // P2.1
	for _, n := range edgeNumbers() {
		first, second := varint.Put(n), varint.Put(n)
		scribble(first)
		if !bytes.Equal(second, form(n)) || !bytes.Equal(varint.Put(n), form(n)) {
			t.Errorf("P2.1: Put(%d) shares memory with another answer", n)
		}
	}
	for length := range 10 {
		taken := bytes.Repeat([]byte{0x81}, length)
		r, e := varint.Load(taken)
		if e != api.OK {
			t.Fatalf("P2.5: Load of % x: error %d", taken, e)
		}
		n := r.N()
		first, second := r.Read(), r.Read()
		scribble(first)
		if !bytes.Equal(second, taken) || !bytes.Equal(r.Read(), taken) || r.N() != n {
			t.Errorf("P2.1: Read of % x shares memory with another answer, or with the reader", taken)
		}
		third := r.Read()
		r.Byte(1)
		if !bytes.Equal(third, taken) {
			t.Errorf("P2.1: what Read answered became % x by a further byte", third)
		}
		if spare := third[:cap(third)]; len(spare) > length && spare[length] == 1 {
			t.Errorf("P2.1: a further byte came into the spare room of what Read answered")
		}
	}
}

func TestReadersKnowNothingOfOneAnother(t *testing.T) { // P2.1
	loaded, e := varint.Load([]byte{0xac})
	if e != api.OK {
		t.Fatalf("P2.5: Load of ac: error %d", e)
	}
	readers := []*varint.Reader{varint.New(), varint.New(), loaded, varint.New()}
	readers[0].Byte(0x85)
	readers[0].Byte(0)
	readers[1].Byte(7)
	readers[2].Byte(2)
	for k, want := range []struct {
		n     uint64
		taken []byte
	}{{5, []byte{0x85}}, {7, []byte{7}}, {300, []byte{0xac, 2}}, {0, nil}} {
		if r := readers[k]; r.N() != want.n || !bytes.Equal(r.Read(), want.taken) {
			t.Errorf("P2.1: reader %d: N %d, Read % x, want %d, % x", k, r.N(), r.Read(), want.n, want.taken)
		}
	}
	if done, e := readers[3].Byte(9); !done || e != api.OK {
		t.Errorf("P2.1: a reader beside three that are over: %v, %d", done, e)
	}
	if r := varint.New(); r.N() != 0 || len(r.Read()) != 0 {
		t.Errorf("P2.1: a new reader: N %d, Read % x", r.N(), r.Read())
	}
}

func TestPutExamples(t *testing.T) { // P2.2
	for _, c := range []struct {
		n    uint64
		want []byte
	}{
		{0, []byte{0}},
		{127, []byte{0x7f}},
		{128, []byte{0x80, 1}},
		{300, []byte{0xac, 2}},
		{1 << 63, []byte{0x80, 0x80, 0x80, 0x80, 0x80, 0x80, 0x80, 0x80, 0x80, 1}},
		{math.MaxUint64, []byte{0xff, 0xff, 0xff, 0xff, 0xff, 0xff, 0xff, 0xff, 0xff, 1}},
	} {
		if b := varint.Put(c.n); !bytes.Equal(b, c.want) {
			t.Errorf("P2.2: Put(%d) = % x", c.n, b)
		}
		if is := varint.Size(c.n); is != len(c.want) {
			t.Errorf("P2.2: Size(%d) = %d", c.n, is)
		}
	}
}

func TestPutAndSize(t *testing.T) { // P2.2
	check := func(n uint64) {
		want := form(n)
		if b := varint.Put(n); !bytes.Equal(b, want) || !bytes.Equal(b, binary.AppendUvarint(nil, n)) {
			t.Errorf("P2.2: Put(%d) = % x, want % x", n, b, want)
		}
		if is := varint.Size(n); is != len(want) {
			t.Errorf("P2.2: Size(%d) = %d, want %d", n, is, len(want))
		}
	}
	for n := range uint64(1 << 15) {
		check(n)
	}
	for _, n := range edgeNumbers() {
		check(n)
	}
}

func TestGetExamples(t *testing.T) { // P2.3
	ff := bytes.Repeat([]byte{0xff}, 9)
	eighty := bytes.Repeat([]byte{0x80}, 9)
	for _, c := range []struct {
		b    []byte
		want got
	}{
		{nil, got{0, 0, api.ErrShort}},
		{[]byte{}, got{0, 0, api.ErrShort}},
		{[]byte{0x80}, got{0, 1, api.ErrShort}},
		{[]byte{0xff, 0xff}, got{0, 2, api.ErrShort}},
		{[]byte{0xac, 2, 0xff}, got{300, 2, api.OK}},
		{[]byte{0x80, 0}, got{0, 1, api.ErrForm}},
		{[]byte{0x80, 0x80, 0}, got{0, 2, api.ErrForm}},
		{[]byte{0, 0}, got{0, 1, api.OK}},
		{[]byte{0}, got{0, 1, api.OK}},
		{ff, got{0, 9, api.ErrShort}},
		{slices.Concat(ff, []byte{1}), got{math.MaxUint64, 10, api.OK}},
		{slices.Concat(ff, []byte{2}), got{0, 9, api.ErrForm}},
		{slices.Concat(ff, []byte{0}), got{0, 9, api.ErrForm}},
		{slices.Concat(ff, []byte{0x80}), got{0, 9, api.ErrForm}},
		{slices.Concat(eighty, []byte{0x81}), got{0, 9, api.ErrForm}},
		{slices.Concat(eighty, []byte{0x80}), got{0, 9, api.ErrForm}},
		{slices.Concat(eighty, []byte{0x80, 1}), got{0, 9, api.ErrForm}},
		{slices.Concat(eighty, []byte{0}), got{0, 9, api.ErrForm}},
		{slices.Concat(eighty, []byte{1}), got{1 << 63, 10, api.OK}},
		{slices.Concat(eighty, []byte{1, 0, 0}), got{1 << 63, 10, api.OK}},
	} {
		if is := get(c.b); is != c.want {
			t.Errorf("P2.3: Get(% x) = %v, want %v", c.b, is, c.want)
		}
	}
}

func TestGet(t *testing.T) { // P2.3
	for _, b := range edgeInputs() {
		if is, want := get(b), wanted(b); is != want {
			t.Errorf("P2.3: Get(% x) = %v, want %v", b, is, want)
		}
	}
	for c := range 256 {
		for _, front := range [][]byte{nil, {0x80}, {0xff, 0x80}, bytes.Repeat([]byte{0xff}, 8), bytes.Repeat([]byte{0x80}, 9)} {
			b := append(slices.Clone(front), byte(c))
			if is, want := get(b), wanted(b); is != want {
				t.Errorf("P2.3: Get(% x) = %v, want %v", b, is, want)
			}
		}
	}
}

func TestGetOfAFormThatIsCut(t *testing.T) { // P2.3
	for _, n := range edgeNumbers() {
		whole := form(n)
		for cut := range whole {
			if is := get(whole[:cut]); is != (got{0, cut, api.ErrShort}) {
				t.Errorf("P2.3: Get of %d's first %d bytes = %v", n, cut, is)
			}
			// With bytes behind it a cut form goes on with them: here a 00 that isn't needed, where it is a further byte.
			behind := slices.Concat(whole[:cut], []byte{0, 0x80})
			want := got{0, cut, api.ErrForm}
			if cut == 0 {
				want = got{0, 1, api.OK}
			}
			if is := get(behind); is != want {
				t.Errorf("P2.3: Get(% x) = %v, want %v", behind, is, want)
			}
		}
	}
}

// step: a byte that a reader is given, and what it answers and has taken then.
type step struct {
	c    byte
	done bool
	e    api.Errno
	n    uint64
	read []byte
}

func checkSteps(t *testing.T, r *varint.Reader, steps []step) {
	t.Helper()
	for k, s := range steps {
		done, e := r.Byte(s.c)
		if done != s.done || e != s.e || r.N() != s.n || !bytes.Equal(r.Read(), s.read) {
			t.Errorf("P2.4: step %d, Byte(%02x) = %v, %d, then N %d, Read % x; want %v", k, s.c, done, e, r.N(), r.Read(), s)
		}
	}
}

func TestReaderExamples(t *testing.T) { // P2.4
	if r := varint.New(); r == nil || r.N() != 0 || len(r.Read()) != 0 {
		t.Fatalf("P2.4: a new reader has taken something")
	}
	checkSteps(t, varint.New(), []step{
		{0xac, false, api.OK, 44, []byte{0xac}},
		{2, true, api.OK, 300, []byte{0xac, 2}},
		{0, false, api.ErrEnded, 300, []byte{0xac, 2}},
		{1, false, api.ErrEnded, 300, []byte{0xac, 2}},
		{0x80, false, api.ErrEnded, 300, []byte{0xac, 2}},
	})
	checkSteps(t, varint.New(), []step{
		{0x80, false, api.OK, 0, []byte{0x80}},
		{0, false, api.ErrForm, 0, []byte{0x80}},
		{1, false, api.ErrEnded, 0, []byte{0x80}},
		{0, false, api.ErrEnded, 0, []byte{0x80}},
	})
	checkSteps(t, varint.New(), []step{
		{0, true, api.OK, 0, []byte{0}},
		{0, false, api.ErrEnded, 0, []byte{0}},
	})
}

func TestReaderAtTheTenthByte(t *testing.T) { // P2.4
	nine := bytes.Repeat([]byte{0xff}, 9)
	for c := range 256 {
		r, e := varint.Load(nine)
		if e != api.OK || r.N() != 1<<63-1 {
			t.Fatalf("P2.5: Load of nine times ff: error %d", e)
		}
		last := step{byte(c), false, api.ErrForm, 1<<63 - 1, nine}
		if c == 1 {
			last = step{1, true, api.OK, math.MaxUint64, append(slices.Clone(nine), 1)}
		}
		behind := last
		behind.done, behind.e = false, api.ErrEnded
		checkSteps(t, r, []step{last, behind, {1, false, api.ErrEnded, last.n, last.read}})
	}
}

// load: by New, and Byte of each.
func load(b []byte) (*varint.Reader, api.Errno) {
	r := varint.New()
	for _, c := range b {
		if _, e := r.Byte(c); e != api.OK {
			return nil, e
		}
	}
	return r, api.OK
}

func TestLoadExamples(t *testing.T) { // P2.5
	for _, c := range []struct {
		b    []byte
		e    api.Errno
		n    uint64
		over bool
	}{
		{nil, api.OK, 0, false},
		{[]byte{}, api.OK, 0, false},
		{[]byte{0xac}, api.OK, 44, false},
		{[]byte{0xac, 2}, api.OK, 300, true},
		{[]byte{0}, api.OK, 0, true},
		{[]byte{0xac, 2, 0}, api.ErrEnded, 0, false},
		{[]byte{0, 0}, api.ErrEnded, 0, false},
		{[]byte{5, 0x80, 0, 0}, api.ErrEnded, 0, false},
		{[]byte{0x80, 0}, api.ErrForm, 0, false},
		{[]byte{0x80, 0, 1}, api.ErrForm, 0, false},
		{bytes.Repeat([]byte{0x80}, 9), api.OK, 0, false},
		{bytes.Repeat([]byte{0x80}, 10), api.ErrForm, 0, false},
		{bytes.Repeat([]byte{0x80}, 1000), api.ErrForm, 0, false},
	} {
		r, e := varint.Load(c.b)
		if e != c.e || (r == nil) != (e != api.OK) {
			t.Errorf("P2.5: Load(% x) = %v, %d, want %d", c.b, r, e, c.e)
			continue
		}
		if r == nil {
			continue
		}
		if r.N() != c.n || !bytes.Equal(r.Read(), c.b) {
			t.Errorf("P2.5: Load(% x): N %d, Read % x", c.b, r.N(), r.Read())
		}
		if _, e := r.Byte(1); (e == api.ErrEnded) != c.over {
			t.Errorf("P2.5: Load(% x), then Byte(01): error %d", c.b, e)
		}
	}
}

func TestLoadIsByteOfEach(t *testing.T) { // P2.5
	for _, b := range edgeInputs() {
		for _, next := range edgeBytes() {
			want, wantError := load(b)
			is, e := varint.Load(b)
			if e != wantError || (is == nil) != (e != api.OK) {
				t.Fatalf("P2.5: Load(% x) = %d, want %d", b, e, wantError)
			}
			if is == nil {
				continue
			}
			before := fmt.Sprint(want.N(), want.Read())
			if fmt.Sprint(is.N(), is.Read()) != before {
				t.Errorf("P2.5: Load(% x): %d % x, want %s", b, is.N(), is.Read(), before)
			}
			wantDone, wantError := want.Byte(next)
			done, e := is.Byte(next)
			if done != wantDone || e != wantError || is.N() != want.N() || !bytes.Equal(is.Read(), want.Read()) {
				t.Errorf("P2.5: Load(% x), then Byte(%02x) = %v, %d, want %v, %d", b, next, done, e, wantDone, wantError)
			}
		}
	}
}

func TestThereAndBack(t *testing.T) { // P2.6
	for _, n := range edgeNumbers() {
		for _, behind := range [][]byte{nil, {0}, {1}, {0x80}, {0xff, 0xff}, bytes.Repeat([]byte{0}, 12)} {
			b := slices.Concat(varint.Put(n), behind)
			if is := get(b); is != (got{n, varint.Size(n), api.OK}) {
				t.Errorf("P2.6: Get(% x) = %v, want %d, %d", b, is, n, varint.Size(n))
			}
		}
	}
	for _, b := range edgeInputs() {
		is := get(b)
		if is.e == api.OK && !bytes.Equal(varint.Put(is.n), b[:is.used]) {
			t.Errorf("P2.6: Get(% x) = %v, but Put(%d) = % x", b, is, is.n, varint.Put(is.n))
		}
	}
}

func TestByteByByte(t *testing.T) { // P2.7
	for _, b := range edgeInputs() {
		whole := get(b)
		r := varint.New()
		at, done, e := 0, false, api.OK
		for at < len(b) && !done && e == api.OK {
			done, e = r.Byte(b[at])
			at++
		}
		switch whole.e {
		case api.OK:
			if !done || at != whole.used || r.N() != whole.n || !bytes.Equal(r.Read(), b[:at]) {
				t.Errorf("P2.7: of % x a reader has %d (% x), done %v, behind %d bytes; Get = %v", b, r.N(), r.Read(), done, at, whole)
			}
		case api.ErrForm:
			if e != api.ErrForm || at-1 != whole.used {
				t.Errorf("P2.7: of % x a reader meets error %d at %d; Get = %v", b, e, at-1, whole)
			}
		default:
			if done || e != api.OK || at != len(b) {
				t.Errorf("P2.7: of % x a reader is done %v, error %d; Get = %v", b, done, e, whole)
			}
			if _, e := r.Byte(1); e == api.ErrEnded {
				t.Errorf("P2.7: of % x a reader is over; Get = %v", b, whole)
			}
		}
	}
}

func TestTheLesserHasNoMoreBytes(t *testing.T) { // P2.8
	numbers := edgeNumbers()
	for k, a := range numbers {
		for _, b := range numbers[k:] {
			if varint.Size(a) > varint.Size(b) || len(varint.Put(a)) > len(varint.Put(b)) {
				t.Errorf("P2.8: %d has %d bytes, %d has %d", a, varint.Size(a), b, varint.Size(b))
			}
		}
	}
}
