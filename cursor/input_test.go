package cursor_test

import (
	"bytes"
	"math"
	"slices"
	"testing"

	"mortise/api"
	"mortise/cursor"
)

func newInput(t *testing.T, at int, chunks ...string) *cursor.Input {
	t.Helper()
	i, e := cursor.New(at)
	if i == nil || e != api.OK {
		t.Fatalf("P3.2: New(%d): error %d", at, e)
	}
	for _, chunk := range chunks {
		give(t, i, chunk)
	}
	return i
}

func give(t *testing.T, i *cursor.Input, chunk string) {
	t.Helper()
	if e := i.Give([]byte(chunk)); e != api.OK {
		t.Fatalf("P3.3: Give(% x): error %d", chunk, e)
	}
}

func end(t *testing.T, i *cursor.Input) {
	t.Helper()
	if e := i.End(); e != api.OK {
		t.Fatalf("P3.3: End: error %d", e)
	}
}

// inputState: all that can be seen of an input.
type inputState struct {
	at, held int
	ended    bool
	bytes    string
}

func seen(t *testing.T, i *cursor.Input) inputState {
	t.Helper()
	b, ok := i.Peek(i.Held())
	if !ok {
		t.Fatalf("P3.6: Peek of all %d that are held: false", i.Held())
	}
	return inputState{i.At(), i.Held(), i.Ended(), string(b)}
}

func wantInput(t *testing.T, promise string, i *cursor.Input, at int, held string, ended bool) {
	t.Helper()
	want := inputState{at, len(held), ended, held}
	if is := seen(t, i); is != want {
		t.Errorf("%s: the input is %+v, want %+v", promise, is, want)
	}
}

// counts: the numbers that a call which is handed a count may be handed, for so many that are held.
func counts(held int) []int {
	list := []int{math.MinInt, math.MinInt + 1, math.MinInt32, -held - 1, -held, -2, -1, 0, 1, 2, held - 1, held, held + 1, held + 2, 255, 256, api.MaxNumber, api.MaxNumber + 1, api.Huge, math.MaxInt - held, math.MaxInt - 1, math.MaxInt}
	slices.Sort(list)
	return slices.Compact(list)
}

func noPanic(t *testing.T, call func(), name string, arguments ...int) {
	t.Helper()
	defer func() {
		if r := recover(); r != nil {
			t.Errorf("P3.1: %s%v panics: %v", name, arguments, r)
		}
	}()
	call()
}

func TestNoCallOfAnInputPanics(t *testing.T) { // P3.1
	for _, n := range counts(3) {
		noPanic(t, func() { cursor.New(n) }, "New", n)
		for _, chunk := range []string{"", "a", "abc"} {
			i := newInput(t, api.MaxNumber, chunk)
			noPanic(t, func() { i.Peek(n) }, "Peek", n)
			noPanic(t, func() { i.Skip(n) }, "Skip", n)
			noPanic(t, func() { i.Give(nil) }, "Give")
			for range 4 {
				noPanic(t, func() { i.Take() }, "Take")
			}
			noPanic(t, func() { i.End() }, "End")
			noPanic(t, func() { i.Give([]byte{1}) }, "Give")
			noPanic(t, func() { i.Peek(n) }, "Peek", n)
			noPanic(t, func() { i.Skip(n) }, "Skip", n)
			noPanic(t, func() { i.Take() }, "Take")
		}
	}
}

func TestNew(t *testing.T) { // P3.2
	for _, at := range []int{0, 1, 7, 255, 1 << 20, api.MaxNumber - 1, api.MaxNumber} {
		wantInput(t, "P3.2", newInput(t, at), at, "", false)
	}
	for _, at := range []int{math.MinInt, -api.MaxNumber, -2, -1, api.MaxNumber + 1, api.MaxNumber + 2, 1 << 32, 1<<32 + 7, api.Huge, math.MaxInt} {
		if i, e := cursor.New(at); i != nil || e != api.ErrPlace {
			t.Errorf("P3.2: New(%d): an input %v, error %d", at, i != nil, e)
		}
	}
}

func TestPositionsGoAboveMaxNumber(t *testing.T) { // P3.5, P3.7: the bound is New's alone
	i := newInput(t, api.MaxNumber, "abc")
	i.Take()
	wantInput(t, "P3.5", i, api.MaxNumber+1, "bc", false)
	if e := i.Skip(2); e != api.OK {
		t.Errorf("P3.7: Skip: error %d", e)
	}
	wantInput(t, "P3.7", i, api.MaxNumber+3, "", false)
}

func TestGive(t *testing.T) { // P3.3
	i := newInput(t, 5)
	give(t, i, "ab")
	wantInput(t, "P3.3", i, 5, "ab", false)
	give(t, i, "")
	if e := i.Give(nil); e != api.OK {
		t.Errorf("P3.3: Give of nil: error %d", e)
	}
	wantInput(t, "P3.3", i, 5, "ab", false)
	give(t, i, "c")
	wantInput(t, "P3.3", i, 5, "abc", false)
	i.Skip(3)
	give(t, i, "d")
	wantInput(t, "P3.3", i, 8, "d", false)
}

func TestEnd(t *testing.T) { // P3.3, P3.4
	for _, held := range []string{"", "a", "abc"} {
		i := newInput(t, 5, held)
		if i.Ended() {
			t.Errorf("P3.4: Ended ahead of End")
		}
		end(t, i)
		wantInput(t, "P3.3", i, 5, held, true)
		for range 2 {
			if e := i.End(); e != api.ErrEnded {
				t.Errorf("P3.3: a further End: error %d", e)
			}
			for _, chunk := range [][]byte{nil, {}, {1}, []byte("xyz")} {
				if e := i.Give(chunk); e != api.ErrEnded {
					t.Errorf("P3.3: Give of %d bytes behind the end: error %d", len(chunk), e)
				}
			}
			wantInput(t, "P3.1", i, 5, held, true)
		}
	}
}

func TestBytesAreTakenBehindTheEnd(t *testing.T) { // P3.5, P3.6, P3.7
	i := newInput(t, 0, "abcd")
	end(t, i)
	if c, ok := i.Take(); c != 'a' || !ok {
		t.Errorf("P3.5: Take behind the end: %x, %v", c, ok)
	}
	if b, ok := i.Peek(2); string(b) != "bc" || !ok {
		t.Errorf("P3.6: Peek behind the end: % x, %v", b, ok)
	}
	if e := i.Skip(2); e != api.OK {
		t.Errorf("P3.7: Skip behind the end: error %d", e)
	}
	wantInput(t, "P3.3", i, 3, "d", true)
	i.Take()
	wantInput(t, "P3.3", i, 4, "", true)
}

func TestTake(t *testing.T) { // P3.5
	all := make([]byte, 256)
	for k := range all {
		all[k] = byte(255 - k)
	}
	i := newInput(t, 9, string(all))
	for k := range all {
		if c, ok := i.Take(); c != all[k] || !ok {
			t.Fatalf("P3.5: byte %d: %x, %v, want %x", k, c, ok, all[k])
		}
		if i.At() != 10+k || i.Held() != 255-k {
			t.Fatalf("P3.5: behind byte %d: At %d, Held %d", k, i.At(), i.Held())
		}
	}
}

func TestTakeOfNothing(t *testing.T) { // P3.5, P3.1
	i := newInput(t, 9)
	emptied := newInput(t, 8, "\xff")
	emptied.Take()
	skipped := newInput(t, 6, "\xff\xff", "\xff")
	skipped.Skip(3)
	ended := newInput(t, 9)
	end(t, ended)
	for _, i := range []*cursor.Input{i, emptied, skipped, ended} {
		before := seen(t, i)
		for range 3 {
			if c, ok := i.Take(); c != 0 || ok {
				t.Errorf("P3.5: Take of nothing: %x, %v", c, ok)
			}
		}
		wantInput(t, "P3.1", i, 9, "", before.ended)
	}
}

func TestPeek(t *testing.T) { // P3.6, P3.1
	for _, held := range []string{"", "a", "abc", "abcdefghij"} {
		for _, ends := range []bool{false, true} {
			i := newInput(t, 4, held)
			if ends {
				end(t, i)
			}
			for _, n := range counts(len(held)) {
				b, ok := i.Peek(n)
				if there := 0 <= n && n <= len(held); ok != there {
					t.Errorf("P3.6: Peek(%d) of %d: %v", n, len(held), ok)
				} else if there && string(b) != held[:n] {
					t.Errorf("P3.6: Peek(%d) of %q: %q", n, held, b)
				} else if !there && len(b) != 0 {
					t.Errorf("P3.1: Peek(%d) of %q: false and %q", n, held, b)
				}
				wantInput(t, "P3.6", i, 4, held, ends)
			}
		}
	}
}

func TestSkip(t *testing.T) { // P3.7, P3.1
	for _, held := range []string{"", "a", "abc", "abcdefghij"} {
		for _, ends := range []bool{false, true} {
			for _, n := range counts(len(held)) {
				i := newInput(t, 4, held)
				if ends {
					end(t, i)
				}
				e := i.Skip(n)
				if 0 <= n && n <= len(held) {
					if e != api.OK {
						t.Errorf("P3.7: Skip(%d) of %d: error %d", n, len(held), e)
					}
					wantInput(t, "P3.7", i, 4+n, held[n:], ends)
					continue
				}
				if e != api.ErrPlace {
					t.Errorf("P3.7: Skip(%d) of %d: error %d", n, len(held), e)
				}
				wantInput(t, "P3.1", i, 4, held, ends)
			}
		}
	}
}

func TestChunksStay(t *testing.T) { // P3.1: what is handed in is not changed, spare room too
	memory := []byte("abcdefgh")
	i := newInput(t, 0, "xy")
	for cut := range 9 {
		if e := i.Give(memory[:cut]); e != api.OK {
			t.Fatalf("P3.3: Give: error %d", e)
		}
		i.Give([]byte("zzzz"))
		i.Take()
		if b, ok := i.Peek(3); ok {
			b[0] = '!'
		}
		i.Skip(2)
	}
	end(t, i)
	i.Give(memory[:3])
	if string(memory) != "abcdefgh" {
		t.Errorf("P3.1: the chunk's memory is %q", memory)
	}
}

func TestChunksAreNotKept(t *testing.T) { // P3.1, P3.11
	for _, spare := range []int{0, 1, 100} {
		chunk := make([]byte, 4, 4+spare)
		i := newInput(t, 0)
		for _, word := range []string{"abcd", "efgh", "ijkl"} {
			copy(chunk, word)
			if e := i.Give(chunk); e != api.OK {
				t.Fatalf("P3.3: Give: error %d", e)
			}
			fill(chunk, '!')
		}
		wantInput(t, "P3.11", i, 0, "abcdefghijkl", false)
	}
}

// fill: writes over all of a list's memory, its spare room too.
func fill(list []byte, with byte) {
	list = list[:cap(list)]
	for k := range list {
		list[k] = with
	}
}

func TestOnlyTheChunkItselfIsGiven(t *testing.T) { // P3.3: nothing of the spare room
	memory := []byte("abcdefgh")
	i := newInput(t, 0)
	i.Give(memory[2:5])
	i.Give(memory[6:6])
	wantInput(t, "P3.3", i, 0, "cde", false)
}

func TestPeekHandsOutNewMemory(t *testing.T) { // P3.1
	i := newInput(t, 0, "abc", "defgh")
	i.Take()
	var answers [][]byte
	for n := range 8 {
		b, _ := i.Peek(n)
		answers = append(answers, b)
	}
	for n, b := range answers {
		fill(b, '!')
		wantInput(t, "P3.1", i, 1, "bcdefgh", false)
		for m := n + 1; m < len(answers); m++ {
			if string(answers[m]) != "bcdefgh"[:m] {
				t.Fatalf("P3.1: what was written into Peek(%d) is seen in Peek(%d): %q", n, m, answers[m])
			}
		}
	}
}

func TestWhatPeekAnsweredStays(t *testing.T) { // P3.1: later calls don't write into it
	i := newInput(t, 0, "abcd")
	b, _ := i.Peek(3)
	i.Skip(4)
	i.Give([]byte("wxyzwxyz"))
	i.Take()
	i.Give([]byte("uvuvuv"))
	if string(b) != "abc" {
		t.Errorf("P3.1: what Peek answered has become %q", b)
	}
}

func TestAPeekedListMayBeGiven(t *testing.T) { // P3.1, P3.3
	i := newInput(t, 0, "abc")
	b, _ := i.Peek(2)
	i.Give(b)
	fill(b, '!')
	wantInput(t, "P3.3", i, 0, "abcab", false)
}

func TestInputsKnowNothingOfOneAnother(t *testing.T) { // P3.1
	chunk := make([]byte, 3, 16)
	copy(chunk, "abc")
	a, b, c := newInput(t, 0), newInput(t, 50), newInput(t, 0)
	a.Give(chunk)
	b.Give(chunk)
	a.Give([]byte("AAA"))
	b.Give([]byte("BB"))
	a.Take()
	b.Skip(2)
	end(t, a)
	wantInput(t, "P3.1", a, 1, "bcAAA", true)
	wantInput(t, "P3.1", b, 52, "cBB", false)
	wantInput(t, "P3.1", c, 0, "", false)
	o := newOutput(t, 8, "abc")
	peeked, _ := b.Peek(3)
	o.Put(peeked)
	o.Patch(3, 2, 0)
	wantInput(t, "P3.1", b, 52, "cBB", false)
	b.Give(o.Bytes())
	o.Patch(0, 2, 0)
	wantInput(t, "P3.1", b, 52, "cBBabc\x00\x00B", false)
}

// cuts: the text in chunks, in every way; a bit of the mask for each place between two bytes.
func cuts(text string, tell func(chunks []string)) {
	for mask := range 1 << (len(text) - 1) {
		var chunks []string
		from := 0
		for k := 1; k < len(text); k++ {
			if mask>>(k-1)&1 == 1 {
				chunks = append(chunks, text[from:k])
				from = k
			}
		}
		tell(append(chunks, text[from:]))
	}
}

// answer: of one call, and the state behind it.
type answer struct {
	call  string
	n     int
	bytes string
	ok    bool
	e     api.Errno
	at    int
	held  int
}

// run: the calls of Take, Peek and Skip that a number says, two bits each, and what they answered.
func run(i *cursor.Input, script, calls int) []answer {
	var list []answer
	for range calls {
		a := answer{call: []string{"Take", "Peek", "Skip", "Skip"}[script%4], n: 1 + script%4}
		switch a.call {
		case "Take":
			c, ok := i.Take()
			a.bytes, a.ok = string([]byte{c}), ok
		case "Peek":
			b, ok := i.Peek(a.n)
			a.bytes, a.ok = string(b), ok
		default:
			a.n -= 2
			a.e = i.Skip(a.n)
		}
		a.at, a.held = i.At(), i.Held()
		list = append(list, a)
		script /= 4
	}
	return list
}

func TestCutsAreNothing(t *testing.T) { // P3.11
	const text = "abcdefgh"
	const calls = 5
	for script := range 1 << (2 * calls) {
		want := run(newInput(t, 3, text), script, calls)
		cuts(text, func(chunks []string) {
			i := newInput(t, 3)
			for _, chunk := range chunks {
				memory := []byte(chunk)
				i.Give(memory)
				i.Give(nil)
				fill(memory, '!')
			}
			if is := run(i, script, calls); !slices.Equal(is, want) {
				t.Fatalf("P3.11: %q: calls answered %v, want %v", chunks, is, want)
			}
		})
	}
}

func TestBytesAreTakenBetweenChunks(t *testing.T) { // P3.11, P3.12
	const text = "abcdefghij"
	for each := 1; each <= 4; each++ {
		cuts(text, func(chunks []string) {
			i := newInput(t, 100)
			var taken []byte
			given := 0
			for _, chunk := range chunks {
				memory := []byte(chunk)
				i.Give(memory)
				fill(memory, '!')
				given += len(chunk)
				for range min(each, i.Held()) {
					c, _ := i.Take()
					taken = append(taken, c)
				}
				if string(taken)+seen(t, i).bytes != text[:given] || i.At() != 100+len(taken) {
					t.Fatalf("P3.12: %q: taken %q, held %q, At %d, given %q", chunks, taken, seen(t, i).bytes, i.At(), text[:given])
				}
			}
		})
	}
}

// model: an input as the document tells it: all that was given, and how many of them were taken.
type model struct {
	first int
	given []byte
	taken int
	ended bool
}

func (m *model) state() inputState {
	held := m.given[m.taken:]
	return inputState{m.first + m.taken, len(held), m.ended, string(held)}
}

// step: does one call to both, and tells if the answers are the same.
func (m *model) step(i *cursor.Input, call int, next *byte) bool {
	held := len(m.given) - m.taken
	switch call {
	case 0, 1, 2:
		chunk := make([]byte, []int{1, 3, 0}[call])
		for k := range chunk {
			*next++
			chunk[k] = *next
		}
		if m.ended {
			return i.Give(chunk) == api.ErrEnded
		}
		m.given = append(m.given, chunk...)
		return i.Give(chunk) == api.OK
	case 3:
		c, ok := i.Take()
		if held == 0 {
			return c == 0 && !ok
		}
		m.taken++
		return c == m.given[m.taken-1] && ok
	case 4:
		b, ok := i.Peek(2)
		if held < 2 {
			return len(b) == 0 && !ok
		}
		return bytes.Equal(b, m.given[m.taken:m.taken+2]) && ok
	case 5:
		if held < 2 {
			return i.Skip(2) == api.ErrPlace
		}
		m.taken += 2
		return i.Skip(2) == api.OK
	default:
		if m.ended {
			return i.End() == api.ErrEnded
		}
		m.ended = true
		return i.End() == api.OK
	}
}

func TestEveryOrderOfCalls(t *testing.T) { // P3.3 to P3.7, P3.12
	const kinds, calls = 7, 6
	orders := 1
	for range calls {
		orders *= kinds
	}
	for order := range orders {
		i, m, next := newInput(t, 11), &model{first: 11}, byte(0)
		rest := order
		for range calls {
			if !m.step(i, rest%kinds, &next) {
				t.Fatalf("P3.12: calls %d in base %d: call %d answers otherwise", order, kinds, rest%kinds)
			}
			if is := seen(t, i); is != m.state() {
				t.Fatalf("P3.12: calls %d in base %d: behind call %d the input is %+v, want %+v", order, kinds, rest%kinds, is, m.state())
			}
			rest /= kinds
		}
	}
}

func TestManyBytes(t *testing.T) { // P3.1, P3.12: single bytes behind many that are held
	const held, more = 1 << 16, 1 << 20
	i := newInput(t, 0)
	i.Give(make([]byte, held))
	for k := range more {
		i.Give([]byte{byte(k * 7)})
		want := byte(0)
		if k >= held {
			want = byte((k - held) * 7)
		}
		if c, ok := i.Take(); c != want || !ok {
			t.Fatalf("P3.12: byte %d: %x, %v", k, c, ok)
		}
	}
	if i.At() != more || i.Held() != held {
		t.Errorf("P3.12: At %d, Held %d", i.At(), i.Held())
	}
}

func TestInputOfTheDocument(t *testing.T) { // the worked examples
	i := newInput(t, 7)
	wantInput(t, "P3.2", i, 7, "", false)
	c, ok := i.Take()
	none, peeks := i.Peek(0)
	_, one := i.Peek(1)
	if c != 0 || ok || len(none) != 0 || !peeks || one || i.Skip(0) != api.OK {
		t.Errorf("P3.5 to P3.7: of nothing: %x, %v; % x, %v; %v", c, ok, none, peeks, one)
	}
	wantInput(t, "P3.1", i, 7, "", false)
	for _, chunk := range []string{"\xaa\xbb", "", "\xcc"} {
		give(t, i, chunk)
	}
	wantInput(t, "P3.3", i, 7, "\xaa\xbb\xcc", false)
	c, ok = i.Take()
	two, peeks := i.Peek(2)
	_, three := i.Peek(3)
	_, less := i.Peek(-1)
	if c != 0xaa || !ok || string(two) != "\xbb\xcc" || !peeks || three || less {
		t.Errorf("P3.5, P3.6: %x, %v; % x, %v; %v; %v", c, ok, two, peeks, three, less)
	}
	wantInput(t, "P3.6", i, 8, "\xbb\xcc", false)
	if a, b, c := i.Skip(3), i.Skip(-1), i.Skip(2); a != api.ErrPlace || b != api.ErrPlace || c != api.OK {
		t.Errorf("P3.7: Skip: errors %d, %d, %d", a, b, c)
	}
	wantInput(t, "P3.7", i, 10, "", false)
	if a, b, c := i.End(), i.End(), i.Give(nil); a != api.OK || b != api.ErrEnded || c != api.ErrEnded || !i.Ended() {
		t.Errorf("P3.3: the end: errors %d, %d, %d", a, b, c)
	}
	wantInput(t, "P3.3", i, 10, "", true)
}
