package sound_test

import (
	"slices"
	"testing"

	"mortise/api"
	"mortise/code"
	"mortise/sound"
)

// targeted: the numbers of the instructions that have a target.
var targeted = func() map[int]bool {
	out := map[int]bool{}
	for _, r := range slices.Concat(tables[0], tables[1]) {
		out[r.op] = r.words[1] == "target"
	}
	return out
}()

// armOwner: the number of the union or choice to which an instruction belongs as an arm, or -1.
func armOwner(p api.Program, at int) int {
	for k := max(0, at-64); k < at; k++ {
		if i := p.Code[k]; (i.Op == 8 || i.Op == 41) && at <= k+i.A {
			return k
		}
	}
	return -1
}

// withJump: the program with a jump to the instruction behind it laid in ahead of an instruction; every target and entry goes where it went.
func withJump(p api.Program, at int) api.Program {
	moved := func(n int) int {
		if n >= at {
			return n + 1
		}
		return n
	}
	q := api.Program{Encodes: p.Encodes, Code: slices.Clone(p.Code)}
	for k := range q.Code {
		if targeted[q.Code[k].Op] {
			q.Code[k].B = moved(q.Code[k].B)
		}
	}
	q.Code = slices.Insert(q.Code, at, api.Instr{Op: 19, B: at + 1})
	for _, e := range p.Entry {
		q.Entry = append(q.Entry, moved(e))
	}
	return q
}

// P15.4: a jump put between two instructions: at every place of programs that are taken, and of such that aren't.
func TestJumpBetween(t *testing.T) {
	d := dice(31)
	taken, refused := 0, 0
	look := func(p api.Program) {
		before := sound.Verify(p)
		if before.Err != api.OK && before.Err != api.ErrCode {
			return
		}
		for at := 1; at < len(p.Code); at++ {
			if armOwner(p, at) >= 0 {
				continue
			}
			q := withJump(p, at)
			after := sound.Verify(q)
			if (before == ok) != (after == ok) || after.Err != before.Err {
				t.Errorf("P15.4: Verify(%s) = %v, but with a jump at %d %v", brief(p), before, at, after)
			}
			if before == ok {
				jumpShape(t, p, q, at)
				taken++
			} else {
				refused++
			}
		}
	}
	for n := range 400 {
		p := d.laid(n%2 == 0, 1+d.below(4))
		look(p)
		for range 6 {
			look(d.change(p))
		}
	}
	look(everything(false))
	look(everything(true))
	if taken < 5000 || refused < 5000 {
		t.Errorf("only %d and %d were asked", taken, refused)
	}
}

// jumpShape: the shape of the instructions that were there is what it was, but at rets, where the order may tell which state came first.
func jumpShape(t *testing.T, p, q api.Program, at int) {
	t.Helper()
	before, _ := sound.Shape(p)
	after, _ := sound.Shape(q)
	after = slices.Delete(slices.Clone(after), at, at+1)
	for k := range before {
		if (before[k] < 0) != (after[k] < 0) {
			t.Errorf("P15.4: Shape(%s) = %v, but with a jump at %d %v", brief(p), before, at, after)
		}
	}
}

// P15.4: of programs of MaxCode instructions less one, and of two less.
func TestJumpBetweenLong(t *testing.T) {
	for _, encodes := range []bool{false, true} {
		p := api.Program{Encodes: encodes, Code: slices.Repeat([]api.Instr{{Op: 20}}, api.MaxCode-1), Entry: []int{0}}
		p.Code[0] = api.Instr{Op: 1, A: -1, B: 1}
		if encodes {
			p.Code[0] = api.Instr{Op: 36}
		}
		if f := sound.Verify(p); f != ok {
			t.Errorf("P15.2: %v", f)
		}
		q := withJump(p, 1)
		if f := sound.Verify(q); f != ok {
			t.Errorf("P15.4: %v", f)
		}
		if f := sound.Verify(withJump(q, 1)); f != (api.Fault{Err: api.ErrLong}) {
			t.Errorf("P15.2: %v", f)
		}
	}
}

// unreached: the instructions without a state that may be others: no arm of a union or choice.
func unreached(p api.Program) (out []int) {
	shape, _ := sound.Shape(p)
	for at, n := range shape {
		if n < 0 && armOwner(p, at) < 0 {
			out = append(out, at)
		}
	}
	return out
}

// P15.5: what is never come to may be anything that has its form.
func TestNeverComeTo(t *testing.T) {
	d := dice(32)
	asked := 0
	for n := range 2000 {
		p := d.laid(n%2 == 0, 1+d.below(4))
		// Some routines are no type's any more, and some instructions stand behind the end.
		p.Entry = p.Entry[:1+d.below(len(p.Entry))]
		for range d.below(4) {
			p.Code = append(p.Code, api.Instr{Op: 20})
		}
		if code.Check(p) != ok {
			continue
		}
		before, f := sound.Shape(p)
		if f != ok {
			t.Fatalf("P15.6: Verify(%s) = %v", brief(p), f)
		}
		for range 5 {
			q := api.Program{Encodes: p.Encodes, Code: slices.Clone(p.Code), Entry: p.Entry}
			for _, at := range unreached(p) {
				if d.below(2) == 0 {
					q.Code[at] = d.instr(p.Encodes, len(p.Code), len(p.Entry))
				}
			}
			// A union that is laid in so may lack its arms.
			if code.Check(q) != ok {
				continue
			}
			asked++
			after, f := sound.Shape(q)
			if f != ok || !slices.Equal(before, after) || sound.Verify(q) != ok {
				t.Errorf("P15.5: Shape(%s) = %v, %v; with other instructions where none is come to, %s: %v", brief(p), before, f, brief(q), after)
			}
		}
	}
	if asked < 2000 {
		t.Errorf("only %d were asked", asked)
	}
}

// P15.5: behind the end anything may stand that has its form.
func TestBehindTheEnd(t *testing.T) {
	d := dice(33)
	asked := 0
	for n := range 600 {
		p := d.laid(n%2 == 0, 1+d.below(4))
		before, _ := sound.Shape(p)
		q := api.Program{Encodes: p.Encodes, Code: slices.Clone(p.Code), Entry: p.Entry}
		more := 1 + d.below(9)
		for range more {
			q.Code = append(q.Code, d.instr(p.Encodes, len(p.Code)+more, len(p.Entry)))
		}
		if code.Check(q) != ok {
			continue
		}
		asked++
		shapeIs(t, q, append(slices.Clone(before), slices.Repeat([]int{-1}, more)...)...)
	}
	if asked < 300 {
		t.Errorf("only %d were asked", asked)
	}
	for _, p := range []api.Program{everything(false), everything(true)} {
		before, _ := sound.Shape(p)
		for _, i := range []api.Instr{{Op: 20}, {Op: 19, B: 3}, {Op: 9, A: 9}} {
			q := api.Program{Encodes: p.Encodes, Code: append(slices.Clone(p.Code), slices.Repeat([]api.Instr{i}, api.MaxCode-len(p.Code))...), Entry: p.Entry}
			after, f := sound.Shape(q)
			if f != ok || !slices.Equal(after[:len(before)], before) || slices.ContainsFunc(after[len(before):], func(n int) bool { return n != -1 }) {
				t.Errorf("P15.5: %s, up to MaxCode: %v", brief(q), f)
			}
			q.Code = append(q.Code, i)
			faultIs(t, q, api.Fault{Err: api.ErrLong})
		}
	}
}

// P15.6: the first so many of a program's types.
func TestFewerTypes(t *testing.T) {
	d := dice(34)
	asked := 0
	look := func(p api.Program) {
		if sound.Verify(p) != ok {
			return
		}
		shape, _ := sound.Shape(p)
		for n := range p.Entry {
			q := p
			q.Entry = p.Entry[:n]
			if code.Check(q) != ok {
				continue
			}
			asked++
			l, f := sound.Shape(q)
			if f != ok || sound.Verify(q) != ok {
				t.Errorf("P15.6: %s is taken, but with %d types %v", brief(p), n, f)
				continue
			}
			for at := range l {
				if l[at] >= 0 && l[at] != shape[at] {
					t.Errorf("P15.6: Shape(%s) = %v, but with %d types %v", brief(p), shape, n, l)
				}
			}
		}
	}
	for n := range 600 {
		p := d.laid(n%2 == 0, 1+d.below(6))
		for range 3 {
			p.Entry = append(p.Entry, p.Entry[d.below(len(p.Entry))])
		}
		look(p)
		for range 6 {
			look(d.change(p))
		}
	}
	// Routines that nothing calls may go, one by one.
	look(written(false, "uint -1 1; ret; seq; ret; struct; bool 0; ret; option r; uint 0 1; r: ret | 0 2 4 7"))
	if asked < 1000 {
		t.Errorf("only %d were asked", asked)
	}
}

// P15.7: every way from a state leads to a state, and each state but those at a ret has a way.
func TestWaysLeadOn(t *testing.T) {
	d := dice(35)
	asked := 0
	look := func(p api.Program) {
		shape, f := sound.Shape(p)
		if f != ok {
			return
		}
		for at, n := range shape {
			if n < 0 {
				continue
			}
			ways := wayList(p, at)
			if len(ways) == 0 && p.Code[at].Op != 20 {
				t.Errorf("P15.7: %s: %d has no way", brief(p), at)
			}
			for _, w := range ways {
				asked++
				if w < 0 || w >= len(p.Code) || shape[w] < 0 {
					t.Errorf("P15.7: %s: a way from %d leads to %d", brief(p), at, w)
				}
			}
		}
		for _, e := range p.Entry {
			if shape[e] < 0 {
				t.Errorf("P15.7: %s: the entry %d has no state", brief(p), e)
			}
		}
	}
	for n := range 600 {
		p := d.laid(n%2 == 0, 1+d.below(6))
		look(p)
		for range 6 {
			look(d.change(p))
		}
	}
	look(everything(false))
	look(everything(true))
	if asked < 10000 {
		t.Errorf("only %d were asked", asked)
	}
}
