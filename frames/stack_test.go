package frames_test

import (
	"slices"
	"testing"

	"mortise/api"
	"mortise/frames"
)

// wantError: by a row written out.
func wantError(t *testing.T, what string, e, want api.Errno) {
	t.Helper()
	if e != want {
		t.Errorf("%s: error %d, want %d", what, e, want)
	}
}

// wantFrame: by a row written out.
func wantFrame(t *testing.T, what string, f, want api.Frame, e, wanted api.Errno) {
	t.Helper()
	if !same(f, want) || e != wanted {
		t.Errorf("%s: %s, %d, want %s, %d", what, brief(f), e, brief(want), wanted)
	}
}

// wantCounts: Len and High, by a row written out.
func wantCounts(t *testing.T, what string, s *frames.Stack, length, high int) {
	t.Helper()
	if s.Len() != length || s.High() != high {
		t.Errorf("P22.7: behind %s: Len %d, High %d, want %d, %d", what, s.Len(), s.High(), length, high)
	}
}

// P22.2 to P22.7: the chapter's worked examples.
func TestExamples(t *testing.T) {
	f, g := exampleF(), exampleG()
	for _, most := range []int{0, 1<<20 + 1} {
		if s, e := frames.New(most); s != nil || e != api.ErrPlace {
			t.Errorf("P22.2: New(%d) = %v, %d", most, s != nil, e)
		}
	}
	s, e := frames.New(2)
	if s == nil || e != api.OK {
		t.Fatalf("P22.2: New(2) = %v, %d", s != nil, e)
	}
	wantCounts(t, "New", s, 0, 0)
	noFrameIs(t, s)
	wantCounts(t, "errors", s, 0, 0)
	odd := f
	odd.End = -2
	wantError(t, "P22.3: Push(f with End -2)", s.Push(odd), api.ErrPlace)
	wantError(t, "P22.3: Push(f)", s.Push(f), api.OK)
	wantError(t, "P22.3: Push(g)", s.Push(g), api.OK)
	wantError(t, "P22.3: Push(f)", s.Push(f), api.ErrFrames)
	wantCounts(t, "Push", s, 2, 2)
	is, e := s.Top()
	wantFrame(t, "P22.4: Top", is, g, e, api.OK)
	is, e = s.Head()
	wantFrame(t, "P22.5: Head", is, withTable(g), e, api.OK)
	n, e := s.Slot(1)
	if n != 300 || e != api.OK {
		t.Errorf("P22.6: Slot(1) = %d, %d", n, e)
	}
	n, e = s.Slot(2)
	if n != 0 || e != api.ErrPlace || s.Slots() != 2 {
		t.Errorf("P22.6: Slot(2) = %d, %d, Slots %d", n, e, s.Slots())
	}
	wantCounts(t, "Slot", s, 2, 2)
	wantError(t, "P22.5: Go(f)", s.Go(f), api.OK)
	wantError(t, "P22.6: Mark(301)", s.Mark(301), api.OK)
	is, e = s.Top()
	wantFrame(t, "P22.4: Top", is, withTable(f, 12, 300, 301), e, api.OK)
	is, e = s.Pop()
	wantFrame(t, "P22.3: Pop", is, withTable(f, 12, 300, 301), e, api.OK)
	wantError(t, "P22.4: Set(g)", s.Set(g), api.OK)
	is, e = s.Pop()
	wantFrame(t, "P22.3: Pop", is, g, e, api.OK)
	is, e = s.Pop()
	wantFrame(t, "P22.3: Pop", is, api.Frame{}, e, api.ErrFrames)
	wantCounts(t, "Pop", s, 0, 2)
}

// noFrameIs: every call but Push is refused of a stack without frames, whatever it is handed.
func noFrameIs(t *testing.T, s *frames.Stack) {
	t.Helper()
	f, e := s.Pop()
	wantFrame(t, "P22.3: Pop of none", f, api.Frame{}, e, api.ErrFrames)
	f, e = s.Top()
	wantFrame(t, "P22.4: Top of none", f, api.Frame{}, e, api.ErrFrames)
	f, e = s.Head()
	wantFrame(t, "P22.5: Head of none", f, api.Frame{}, e, api.ErrFrames)
	for _, f := range []api.Frame{exampleF(), exampleG(), {End: -2}, {Routine: -1}, {Table: []int{-1}}, {Table: make([]int, many+1)}} {
		wantError(t, "P22.4: Set of none", s.Set(f), api.ErrFrames)
		wantError(t, "P22.5: Go of none", s.Go(f), api.ErrFrames)
	}
	for _, n := range strangeNumbers() {
		wantError(t, "P22.6: Mark of none", s.Mark(n), api.ErrFrames)
		if is, e := s.Slot(n); is != 0 || e != api.ErrFrames {
			t.Errorf("P22.6: Slot(%d) of none = %d, %d", n, is, e)
		}
	}
	if n := s.Slots(); n != 0 || s.Len() != 0 {
		t.Errorf("P22.6: of no frame: Slots = %d, Len = %d", n, s.Len())
	}
}

// P22.2: which numbers New takes; and that the stack may have that many frames, and no more.
func TestNew(t *testing.T) {
	for _, most := range append(strangeNumbers(), 4, 5, 300, mostCode-2) {
		if most < 1 || most > 1048576 {
			if s, e := frames.New(most); s != nil || e != api.ErrPlace {
				t.Errorf("P22.2: New(%d) = %v, %d, want ErrPlace", most, s != nil, e)
			}
			continue
		}
		x := newTwin(t, most)
		x.look("New")
		noFrameIs(t, x.s)
		x.look("errors")
		if most > 300 {
			continue
		}
		for k := range most {
			wantError(t, "P22.2: Push", x.push(withTable(exampleF(), k)), api.OK)
		}
		wantError(t, "P22.2: one more", x.push(exampleF()), api.ErrFrames)
		wantCounts(t, "Push", x.s, most, most)
		x.empty()
	}
}

// P22.2, P22.3, P22.7, P22.10: as many frames as there may be at all.
func TestMostFrames(t *testing.T) {
	x := newTwin(t, mostCode)
	x.brief = true
	for k := range mostCode {
		f := api.Frame{Routine: k, At: 2 * k, Base: 1, End: k - 1, Node: 5 - k%7, Next: 3}
		if k%1000 == 0 {
			f.Table = []int{k, huge, 0}
		}
		if e := x.push(f); e != api.OK {
			t.Fatalf("P22.3: Push number %d: error %d", k, e)
		}
	}
	for _, f := range []api.Frame{exampleF(), exampleG(), {End: -2}} {
		wantError(t, "P22.3: one more than there may be", x.push(f), api.ErrFrames)
	}
	wantCounts(t, "all", x.s, 1048576, 1048576)
	y := x.loaded()
	wantError(t, "P22.10: one more than there may be", y.push(exampleF()), api.ErrFrames)
	b := x.s.Save()
	x.brief, y.brief = false, false
	x.look("all")
	y.look("all")
	x.brief, y.brief = true, true
	x.empty()
	y.empty()
	wantCounts(t, "all", x.s, 0, 1048576)
	refusedIs(t, b[:len(b)-1], api.ErrShort, len(b)-1)
	refusedIs(t, append(b, 0), api.ErrTail, len(b))
}

// P22.3 to P22.7: stacks without frames, whatever was there ahead.
func TestNoFrame(t *testing.T) {
	for _, most := range []int{1, 2, 3, mostCode} {
		x := newTwin(t, most)
		noFrameIs(t, x.s)
		x.look("errors")
		for _, f := range []api.Frame{exampleF(), exampleG(), withTable(exampleF(), 1, 2, 3, 4, 5)} {
			wantError(t, "P22.3: Push", x.push(f), api.OK)
			x.mark(7)
			x.pop()
			noFrameIs(t, x.s)
			x.look("errors")
			y := x.loaded()
			noFrameIs(t, y.s)
			y.look("errors")
			wantError(t, "P22.3: Push", y.push(f), api.OK)
			y.empty()
		}
		wantCounts(t, "Pop", x.s, 0, 1)
	}
}

// P22.3: a full stack takes no frame, right or not; all other calls go on, and one may be pushed where one is gone.
func TestFull(t *testing.T) {
	for most := 1; most <= 4; most++ {
		x := newTwin(t, most)
		for k := range most {
			wantError(t, "P22.3: Push", x.push(withTable(exampleG(), k)), api.OK)
		}
		for _, f := range []api.Frame{exampleF(), exampleG(), {End: -2}, {At: huge + 1}, {Table: []int{-1}}, {Table: make([]int, many+1)}} {
			wantError(t, "P22.3: Push on a full stack", x.push(f), api.ErrFrames)
		}
		wantCounts(t, "Push", x.s, most, most)
		wantError(t, "P22.4: Set", x.set(exampleF()), api.OK)
		wantError(t, "P22.6: Mark", x.mark(5), api.OK)
		wantError(t, "P22.5: Go", x.goes(exampleG()), api.OK)
		x.top()
		x.head()
		x.slot(0)
		x.slot(1)
		x.pop()
		wantError(t, "P22.3: Push where one is gone", x.push(exampleF()), api.OK)
		wantError(t, "P22.3: Push on a full stack", x.push(exampleF()), api.ErrFrames)
		wantCounts(t, "Push", x.s, most, most)
		x.empty()
	}
}

// laid: what each call that is handed a frame answers, of a stack with two frames that may have three.
func laid(t *testing.T, f api.Frame, want, wantGo api.Errno) {
	t.Helper()
	for _, table := range [][]int{nil, {4}, {12, 300, 5}} {
		below := withTable(exampleF(), table...)
		x := newTwin(t, 3, exampleG(), below)
		wantError(t, "P22.3: Push("+brief(f)+")", x.push(f), want)
		x = newTwin(t, 3, exampleG(), below)
		wantError(t, "P22.4: Set("+brief(f)+")", x.set(f), want)
		x = newTwin(t, 3, exampleG(), below)
		wantError(t, "P22.5: Go("+brief(f)+")", x.goes(f), wantGo)
		x = newTwin(t, 1)
		wantError(t, "P22.3: Push("+brief(f)+")", x.push(f), want)
	}
}

// P22.3 to P22.5: a frame's numbers, one by one, at their bounds.
func TestEachField(t *testing.T) {
	for k, least := range []int{0, 0, 0, -1, -1, 0} {
		for _, n := range strangeNumbers() {
			for _, f := range []api.Frame{exampleF(), exampleG(), {}} {
				*fields(&f)[k] = n
				want := api.OK
				if n < least || n > 4611686018427387904 {
					want = api.ErrPlace
				}
				laid(t, f, want, want)
			}
		}
	}
}

// P22.3 to P22.5: two numbers at their bounds at one time.
func TestTwoFields(t *testing.T) {
	for a := range 6 {
		for b := range a {
			for _, n := range edges() {
				for _, m := range edges() {
					f := exampleG()
					*fields(&f)[a], *fields(&f)[b] = n, m
					want := unless(isRight(f), api.ErrPlace)
					laid(t, f, want, want)
				}
			}
		}
	}
}

// P22.3 to P22.5: the Table's positions, one by one, at their bounds. Go looks at none.
func TestEachPosition(t *testing.T) {
	for _, length := range []int{1, 2, 3, 9} {
		for k := range length {
			for _, n := range strangeNumbers() {
				f := withTable(exampleF(), make([]int, length)...)
				f.Table[k] = n
				want := api.OK
				if n < 0 || n > 4611686018427387904 {
					want = api.ErrPlace
				}
				laid(t, f, want, api.OK)
				f.Node = -2
				laid(t, f, api.ErrPlace, api.ErrPlace)
			}
		}
	}
}

// P22.3 to P22.5: Tables of no position, of as many as there may be, and of more.
func TestTableLengths(t *testing.T) {
	for _, length := range []int{0, 1, 2, many - 1, many, many + 1, many + 2, 2 * many} {
		f := withTable(exampleG(), make([]int, length)...)
		for k := range f.Table {
			f.Table[k] = k
		}
		want := api.OK
		if length > 1048576 {
			want = api.ErrPlace
		}
		x := newTwin(t, 2, exampleF())
		x.brief = true
		wantError(t, "P22.3: Push", x.push(f), want)
		if length > 0 {
			f.Table[length-1] = -1
			wantError(t, "P22.3: Push, the last position -1", x.push(f), either(x.s.Len() == 2, api.ErrFrames, api.ErrPlace))
			wantError(t, "P22.5: Go, which looks at no Table", x.goes(f), api.OK)
			wantError(t, "P22.4: Set, the last position -1", x.set(f), api.ErrPlace)
			f.Table[length-1] = huge
		}
		wantError(t, "P22.4: Set", x.set(f), want)
		wantError(t, "P22.5: Go, which looks at no Table", x.goes(f), api.OK)
		x.brief = false
		x.empty()
	}
}

// P22.3 to P22.6: which of two errors is told.
func TestOrderOfErrors(t *testing.T) {
	full := newTwin(t, 1, exampleF())
	wantError(t, "P22.3: Push on a full stack of a frame that isn't right", full.push(api.Frame{Base: -1}), api.ErrFrames)
	none := newTwin(t, 1)
	wantError(t, "P22.4: Set of none to a frame that isn't right", none.set(api.Frame{Base: -1}), api.ErrFrames)
	wantError(t, "P22.5: Go of none to a frame that isn't right", none.goes(api.Frame{Base: -1}), api.ErrFrames)
	wantError(t, "P22.6: Mark of none at -1", none.mark(-1), api.ErrFrames)
	if n, e := none.s.Slot(-1); n != 0 || e != api.ErrFrames {
		t.Errorf("P22.6: Slot(-1) of none = %d, %d", n, e)
	}
	long := newTwin(t, 1)
	long.brief = true
	wantError(t, "P22.3: Push", long.push(api.Frame{Table: make([]int, many)}), api.OK)
	for _, at := range []int{-1, huge + 1} {
		wantError(t, "P22.6: Mark of a Table that has no room, of what is no position", long.mark(at), api.ErrPlace)
	}
	wantError(t, "P22.6: Mark of a Table that has no room", long.mark(0), api.ErrMany)
}

// P22.4: Set puts a whole frame in the last one's place, its Table too, and no frame below.
func TestSet(t *testing.T) {
	x := newTwin(t, 3, exampleF(), exampleG(), withTable(exampleF(), 1, 2, 3))
	for _, f := range []api.Frame{exampleF(), exampleG(), withTable(exampleF(), 9), {Routine: 1, At: 2, Base: 3, End: 4, Node: 5, Next: 6, Table: []int{7, 8, 9, 10}}, {}} {
		wantError(t, "P22.4: Set", x.set(f), api.OK)
		is, e := x.s.Top()
		wantFrame(t, "P22.4: Top behind Set", is, f, e, api.OK)
		wantCounts(t, "Set", x.s, 3, 3)
	}
	x.empty()
}

// P22.5: Go looks at no Table of what it is handed, and leaves that of the last frame; Head answers none.
func TestGoAndHead(t *testing.T) {
	tables := [][]int{nil, {}, {5}, {12, 300}, {0, huge, 1, 2, 3, 4, 5, 6, 7}}
	handed := append(slices.Clone(tables), []int{-1}, []int{huge + 1, -7}, make([]int, many), make([]int, many+1))
	for _, stays := range tables {
		for _, table := range handed {
			x := newTwin(t, 2, exampleG(), withTable(exampleF(), stays...))
			to := api.Frame{Routine: 10, At: 20, Base: 30, End: 40, Node: 50, Next: 60, Table: table}
			wantError(t, "P22.5: Go", x.goes(to), api.OK)
			f, e := x.s.Top()
			wantFrame(t, "P22.5: Top behind Go", f, withTable(to, stays...), e, api.OK)
			f, e = x.s.Head()
			wantFrame(t, "P22.5: Head behind Go", f, withTable(to), e, api.OK)
			if len(f.Table) != 0 {
				t.Errorf("P22.5: Head's Table is %v", f.Table)
			}
			to.Next = -1
			wantError(t, "P22.5: Go of a frame that isn't right", x.goes(to), api.ErrPlace)
			wantError(t, "P22.6: Mark", x.mark(77), api.OK)
			x.pop()
			f, e = x.s.Top()
			wantFrame(t, "P22.5: the frame below", f, exampleG(), e, api.OK)
		}
	}
}

// P22.5, P22.6: what Head answers may be handed to Go, and nothing changes.
func TestGoOfHead(t *testing.T) {
	d := dice(3)
	for range 200 {
		x := newTwin(t, 2, exampleF(), d.frame())
		before := x.s.Save()
		f, e := x.s.Head()
		wantError(t, "P22.5: Head", e, api.OK)
		wantError(t, "P22.5: Go", x.goes(f), api.OK)
		if !slices.Equal(x.s.Save(), before) {
			t.Errorf("P22.5: Go of Head changes something: %s", x)
		}
	}
}

// P22.6: positions from none to as many as there may be, and one more.
func TestMark(t *testing.T) {
	x := newTwin(t, 2, exampleG(), exampleF())
	x.brief = true
	position := func(k int) int { return k * 7919 % 100003 }
	for k := range many {
		if x.s.Slots() != k {
			t.Fatalf("P22.6: Slots = %d behind %d positions", x.s.Slots(), k)
		}
		if e := x.mark(position(k)); e != api.OK {
			t.Fatalf("P22.6: Mark number %d: error %d", k, e)
		}
	}
	for _, at := range []int{0, 1, huge} {
		wantError(t, "P22.6: one more", x.mark(at), api.ErrMany)
	}
	for _, at := range []int{-1, -2, huge + 1} {
		wantError(t, "P22.6: one more, which is no position", x.mark(at), api.ErrPlace)
	}
	for k := range many {
		if n, e := x.s.Slot(k); n != position(k) || e != api.OK {
			t.Fatalf("P22.6: Slot(%d) = %d, %d, want %d", k, n, e, position(k))
		}
	}
	x.slot(many)
	x.slot(-1)
	wantError(t, "P22.5: Go", x.goes(exampleG()), api.OK)
	wantError(t, "P22.6: one more", x.mark(0), api.ErrMany)
	y := x.loaded()
	wantError(t, "P22.6: one more", y.mark(0), api.ErrMany)
	x.pop()
	y.pop()
	wantError(t, "P22.6: Mark of the frame below", x.mark(8), api.OK)
	x.look("all")
	y.empty()
	x.empty()
}

// P22.6: what may be a position, and that it stands behind those that are there.
func TestMarkBounds(t *testing.T) {
	for _, table := range [][]int{nil, {5}, {1, 2, 3}} {
		for _, at := range strangeNumbers() {
			x := newTwin(t, 2, exampleG(), withTable(exampleF(), table...))
			want, behind := api.OK, append(slices.Clone(table), at)
			if at < 0 || at > 4611686018427387904 {
				want, behind = api.ErrPlace, table
			}
			wantError(t, "P22.6: Mark", x.mark(at), want)
			f, e := x.s.Pop()
			wantFrame(t, "P22.6: behind Mark", f, withTable(exampleF(), behind...), e, api.OK)
		}
	}
}

// P22.6: positions by number, at all numbers.
func TestSlot(t *testing.T) {
	for _, table := range [][]int{nil, {5}, {12, 300}, {0, huge, 7, 0, 9}} {
		x := newTwin(t, 2, exampleG(), withTable(exampleF(), table...))
		if x.s.Slots() != len(table) {
			t.Errorf("P22.6: Slots = %d, want %d", x.s.Slots(), len(table))
		}
		for _, k := range append(strangeNumbers(), 4, 5, 6) {
			want, wanted := 0, api.ErrPlace
			if k >= 0 && k < len(table) {
				want, wanted = table[k], api.OK
			}
			if n, e := x.s.Slot(k); n != want || e != wanted {
				t.Errorf("P22.6: Slot(%d) of %v = %d, %d", k, table, n, e)
			}
		}
	}
}

// P22.7: counts through pushes and pops, those that are refused too, ahead of a Save and behind a Load.
func TestLenAndHigh(t *testing.T) {
	x := newTwin(t, 4)
	length, high := 0, 0
	for k, c := range "++--+++-x-+++++x---------++x+++" {
		switch c {
		case '+':
			if x.push(exampleG()) == api.OK {
				length++
			}
		case '-':
			if _, e := x.pop(); e == api.OK {
				length--
			}
		case 'x':
			wantError(t, "P22.3: Push", x.push(api.Frame{Next: -1}), either(length == 4, api.ErrFrames, api.ErrPlace))
		}
		high = max(high, length)
		wantCounts(t, "step "+string(c), x.s, length, high)
		if k%3 == 0 {
			x = x.loaded()
			wantCounts(t, "Load", x.s, length, high)
		}
	}
	if length != 4 || high != 4 {
		t.Errorf("the test's script ends with %d frames, at most %d", length, high)
	}
}

// P22.7: High is that of the frames, not of what may be; a new stack begins at none.
func TestHighOfFew(t *testing.T) {
	x := newTwin(t, 9)
	for high := 1; high <= 9; high++ {
		for range high {
			x.push(exampleF())
		}
		x.empty()
		wantCounts(t, "Pop", x.s, 0, high)
		wantCounts(t, "Load", x.loaded().s, 0, high)
	}
	wantCounts(t, "New", newTwin(t, 9).s, 0, 0)
}

// P22.11: frames come out in the reverse of the order in which they went in, as they were set last.
func TestReverse(t *testing.T) {
	d := dice(5)
	for n := range 60 {
		x := newTwin(t, n+1)
		var want []api.Frame
		for range n {
			f := d.frame()
			x.push(f)
			switch d.below(4) {
			case 0:
				f = d.frame()
				x.set(f)
			case 1:
				f = withTable(d.frame(), f.Table...)
				x.goes(f)
			case 2:
				f.Table = append(f.Table, 71, 72)
				x.mark(71)
				x.mark(72)
			}
			want = append(want, f)
		}
		if n%2 == 0 {
			x = x.loaded()
		}
		wantCounts(t, "Push", x.s, n, n)
		for k := n - 1; k >= 0; k-- {
			f, e := x.s.Pop()
			wantFrame(t, "P22.11: Pop", f, want[k], e, api.OK)
		}
		wantCounts(t, "Pop", x.s, 0, n)
	}
}

// P22.11: a frame that lies below is changed when it is the last one again.
func TestChangedBetween(t *testing.T) {
	x := newTwin(t, 3, exampleF(), exampleG())
	x.push(exampleF())
	x.pop()
	x.mark(1)
	x.push(exampleG())
	x.mark(2)
	x.pop()
	x.goes(exampleF())
	x.mark(3)
	f, e := x.s.Pop()
	wantFrame(t, "P22.11: Pop", f, withTable(exampleF(), 12, 300, 1, 3), e, api.OK)
	x.m.pop()
	x.set(exampleG())
	x.mark(4)
	f, e = x.s.Pop()
	wantFrame(t, "P22.11: Pop", f, withTable(exampleG(), 12, 300, 4), e, api.OK)
}
