package frames_test

import (
	"bytes"
	"math"
	"slices"
	"testing"

	"mortise/api"
	"mortise/frames"
)

// P22.1: every call ends, and none panics, at all numbers and frames, of a stack without frames, of one that is full, and of one in between; with an error nothing has changed.
func TestAllCalls(t *testing.T) {
	for _, most := range []int{1, 2, 3, 9, mostCode} {
		for count := range min(most, 4) + 1 {
			at := func() *twin {
				x := newTwin(t, most)
				for k := range count {
					x.push(withTable(exampleG(), slices.Repeat([]int{k}, k)...))
				}
				return x
			}
			for _, n := range strangeNumbers() {
				x := at()
				x.slot(n)
				x.mark(n)
				for k := range 6 {
					f := exampleG()
					*fields(&f)[k] = n
					for _, f := range []api.Frame{f, withTable(f), withTable(f, n), withTable(exampleF(), 0, n, 0)} {
						x.set(f)
						x.goes(f)
						x.push(f)
						x.top()
						x.head()
						x.pop()
						x.slot(n)
						x.mark(n)
					}
				}
				x.loaded()
				x.empty()
			}
		}
	}
}

// P22.1: the other answer of a call that answers an error is its zero value, whatever was answered ahead.
func TestZeroBesideError(t *testing.T) {
	for _, b := range [][]byte{nil, {0x67}, {0x66, 0}, {0x66, 2, 3, 3}, {0x66, 2, 0, 2, 0}} {
		if s, f := frames.Load(b); s != nil || f.Err == api.OK {
			t.Errorf("P22.1: Load(% x) = %v, %v", b, s != nil, f)
		}
	}
	for _, most := range []int{0, -1, math.MinInt, math.MaxInt, mostCode + 1} {
		if s, e := frames.New(most); s != nil || e == api.OK {
			t.Errorf("P22.1: New(%d) = %v, %d", most, s != nil, e)
		}
	}
	x := newTwin(t, 1, exampleG())
	x.slot(1)
	if n, e := x.s.Slot(2); n != 0 || e != api.ErrPlace {
		t.Errorf("P22.1: Slot(2) = %d, %d", n, e)
	}
	x.top()
	x.head()
	x.pop()
	for range 2 {
		f, e := x.s.Pop()
		wantFrame(t, "P22.1: Pop", f, api.Frame{}, e, api.ErrFrames)
		f, e = x.s.Top()
		wantFrame(t, "P22.1: Top", f, api.Frame{}, e, api.ErrFrames)
		f, e = x.s.Head()
		wantFrame(t, "P22.1: Head", f, api.Frame{}, e, api.ErrFrames)
		n, e := x.s.Slot(0)
		if n != 0 || e != api.ErrFrames {
			t.Errorf("P22.1: Slot(0) = %d, %d", n, e)
		}
	}
}

// P22.1: a call that answers an error has changed nothing: every one of them, of stacks that look like chance.
func TestErrorsChangeNothing(t *testing.T) {
	d := dice(11)
	wrong := []api.Frame{{Routine: -1}, {At: -1}, {Base: -1}, {End: -2}, {Node: -2}, {Next: -1}, {Routine: 1, At: 2, Base: 3, End: 4, Node: 5, Next: huge + 1}}
	tables := [][]int{{-1}, {1, 2, -1}, {huge + 1}, {7, 8, 9, math.MinInt}}
	for n := range 200 {
		x := d.chanceStack(t, 1+n%5, n)
		before := x.s.Save()
		for _, f := range wrong {
			x.push(f)
			x.set(f)
			x.goes(withTable(f, 1, 2))
		}
		for _, table := range tables {
			x.push(withTable(exampleF(), table...))
			x.set(withTable(exampleF(), table...))
		}
		for _, k := range []int{math.MinInt, -1, x.s.Slots(), x.s.Slots() + 1, math.MaxInt} {
			x.slot(k)
			x.mark(min(k, -1))
		}
		if x.s.Len() == x.m.most {
			x.push(exampleG())
		}
		frames.Load(before[:n%len(before)])
		if !bytes.Equal(x.s.Save(), before) {
			t.Errorf("P22.1: errors have changed % x to % x", before, x.s.Save())
		}
		x.empty()
		empty := x.s.Save()
		noFrameIs(t, x.s)
		if !bytes.Equal(x.s.Save(), empty) {
			t.Errorf("P22.1: errors have changed % x to % x", empty, x.s.Save())
		}
	}
}

// roomy: a copy whose Table has spare room, and something in it that would be a fault, or a position more.
func roomy(f api.Frame) api.Frame {
	return withTable(f, append(slices.Clip(slices.Clone(f.Table)), -5, 99, math.MaxInt)[:len(f.Table)]...)
}

// held: all that a list holds, spare room too.
func held[T any](l []T) []T { return slices.Clone(l[:cap(l)]) }

// overwrite writes over a list, spare room too.
func overwrite[T any](l []T, x T) {
	l = l[:cap(l)]
	for k := range l {
		l[k] = x
	}
}

// all: do all items of a list, spare room too, say this?
func all[T comparable](l []T, x T) bool {
	return !slices.ContainsFunc(l[:cap(l)], func(y T) bool { return y != x })
}

// handing: a call that is handed a frame.
type handing struct {
	name string
	hand func(x *twin, f api.Frame) api.Errno
}

func handings() []handing {
	return []handing{{"Push", (*twin).push}, {"Set", (*twin).set}, {"Go", (*twin).goes}}
}

// use: everything that may write to a Table, or read it, from now on.
func use(x *twin) {
	x.mark(31)
	x.mark(32)
	x.top()
	x.goes(exampleG())
	x.mark(33)
	x.loaded()
	x.push(exampleF())
	x.mark(34)
	x.pop()
	x.pop()
}

// P22.1: a Table that is handed in is neither changed nor looked at again, spare room too.
func TestFramesHandedIn(t *testing.T) {
	d := dice(12)
	for _, h := range handings() {
		for range 300 {
			x := newTwin(t, 4, d.frame(), d.frame())
			f := roomy(d.anyFrame())
			before := held(f.Table)
			h.hand(x, f)
			if !slices.Equal(held(f.Table), before) {
				t.Fatalf("P22.1: %s changes what is handed in: %v, was %v", h.name, held(f.Table), before)
			}
			overwrite(f.Table, 12345)
			x.look("P22.1: a change of what was handed to " + h.name)
			use(x)
			if !all(f.Table, 12345) {
				t.Fatalf("P22.1: behind %s later calls write to what was handed in: %v", h.name, held(f.Table))
			}
		}
	}
}

// P22.1: a frame whose Table is part of another's is kept apart from it.
func TestTablesThatOverlap(t *testing.T) {
	whole := []int{1, 2, 3, 4, 5, 6, 7, 8}
	x := newTwin(t, 4)
	for k := range 4 {
		x.push(withTable(exampleF(), whole[k:k+3]...))
		x.mark(100 + k)
	}
	x.set(api.Frame{Table: whole[:2]})
	x.mark(9)
	if !slices.Equal(whole, []int{1, 2, 3, 4, 5, 6, 7, 8}) {
		t.Errorf("P22.1: what is handed in is changed: %v", whole)
	}
	clear(whole)
	x.look("P22.1: a change of what was handed in")
	x.empty()
}

// P22.1: what Top and Pop answer may be handed in again, of the same stack and of another one, and is new there too.
func TestHandedOutAndIn(t *testing.T) {
	x, y := newTwin(t, 4, exampleG()), newTwin(t, 4, exampleF())
	f, _ := x.s.Top()
	x.push(f)
	y.set(f)
	f.Table[0] = 55
	x.look("a change")
	y.look("a change")
	x.mark(1)
	y.mark(2)
	f, _ = x.pop()
	f.Table[1] = 56
	x.push(f)
	y.push(f)
	overwrite(f.Table, 57)
	x.look("a change")
	y.look("a change")
	x.mark(3)
	y.mark(4)
	x.empty()
	y.empty()
}

// P22.1: bytes that are handed in are neither changed nor looked at again, spare room too, and spare room is not looked at.
func TestBytesHandedIn(t *testing.T) {
	d := dice(13)
	for n := range 300 {
		x := d.chanceStack(t, 1+n%7, n%60)
		b := append(x.s.Save(), 0, 1, 2)
		before := held(b)
		length := len(b) - 3
		s, f := frames.Load(b[:length])
		if s == nil || f != (api.Fault{}) {
			t.Fatalf("P22.9: Load with spare room = %v, %v", s != nil, f)
		}
		refusedIs(t, b[:length+1], api.ErrTail, length)
		cut := d.below(length)
		refusedIs(t, b[:cut], api.ErrShort, cut)
		if !bytes.Equal(held(b), before) {
			t.Fatalf("P22.1: Load changes what is handed in")
		}
		y := &twin{t: t, s: s, m: x.m.clone()}
		overwrite(b, 0xee)
		y.look("P22.1: a change of what was handed to Load")
		use(y)
		y.empty()
		if !all(b, 0xee) {
			t.Fatalf("P22.1: later calls write to what was handed to Load")
		}
	}
}

// answers: of all calls that hand out a list, its lists of numbers; Pop's is gone from the stack.
func answers(x *twin) (out [][]int) {
	first, _ := x.s.Top()
	second, _ := x.s.Top()
	head, _ := x.s.Head()
	last, _ := x.s.Pop()
	x.m.pop()
	below, _ := x.s.Top()
	return [][]int{first.Table, second.Table, head.Table, last.Table, below.Table}
}

// P22.1: what Top, Head and Pop answer is new memory, spare room too: it is neither the stack's nor another answer's.
func TestFramesHandedOut(t *testing.T) {
	d := dice(14)
	for n := range 400 {
		x := newTwin(t, 5, d.frame(), d.frame(), d.frame())
		for k := range n % 6 {
			x.mark(k)
		}
		if n%5 == 0 {
			x = x.loaded()
		}
		lists := answers(x)
		x.look("Top, Head, Pop")
		for k, l := range lists {
			overwrite(l, -100-k)
		}
		for k, l := range lists {
			if !all(l, -100-k) {
				t.Fatalf("P22.1: answer %d shares memory with another one", k)
			}
		}
		x.look("P22.1: a change of what was answered")
		use(x)
		x.push(d.frame())
		x.mark(1)
		x.mark(2)
		for k, l := range lists {
			if !all(l, -100-k) {
				t.Fatalf("P22.1: a later call writes to what was answered (%d)", k)
			}
		}
		x.empty()
	}
}

// P22.1: what was answered stays as it is, whatever is called behind.
func TestAnswersStay(t *testing.T) {
	d := dice(15)
	for range 300 {
		x := newTwin(t, 5, d.frame(), d.frame())
		x.mark(1)
		top, _ := x.s.Top()
		wantTop := own(top)
		b := x.s.Save()
		wantBytes := bytes.Clone(b)
		x.mark(2)
		x.set(d.frame())
		x.goes(d.frame())
		last, _ := x.pop()
		wantLast := own(last)
		x.push(d.frame())
		x.mark(3)
		x.set(d.frame())
		x.empty()
		if !same(top, wantTop) || !same(last, wantLast) || !bytes.Equal(b, wantBytes) {
			t.Fatalf("P22.1: what was answered is changed by later calls: %s, %s, % x", brief(top), brief(last), b)
		}
	}
}

// P22.1: what Save answers is new memory, spare room too.
func TestBytesHandedOut(t *testing.T) {
	d := dice(16)
	for n := range 300 {
		x := d.chanceStack(t, 1+n%7, n%50)
		first, second := x.s.Save(), x.s.Save()
		overwrite(first, 0xee)
		x.look("P22.1: a change of what Save answered")
		if !bytes.Equal(second, x.m.bytes()) {
			t.Fatalf("P22.1: two answers of Save share memory")
		}
		overwrite(second, 0xdd)
		if !all(first, 0xee) {
			t.Fatalf("P22.1: two answers of Save share spare room")
		}
		use(x)
		x.s.Save()
		if !all(first, 0xee) || !all(second, 0xdd) {
			t.Fatalf("P22.1: a later call writes to what Save answered")
		}
	}
}

// P22.1: stacks know nothing of one another: new ones, a loaded one and that of which it was saved, one of the same bytes.
func TestStacksApart(t *testing.T) {
	d := dice(17)
	for n := range 60 {
		first := d.chanceStack(t, 1+n%6, n)
		stacks := []*twin{first, first.loaded(), first.loaded(), newTwin(t, first.m.most), newTwin(t, 3)}
		for range 80 {
			d.step(stacks[d.below(len(stacks))])
			for _, x := range stacks {
				x.look("a call of another stack")
			}
		}
		for _, x := range stacks {
			x.empty()
			for _, y := range stacks {
				y.look("a call of another stack")
			}
		}
	}
}
