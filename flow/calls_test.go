package flow_test

import (
	"math"
	"slices"
	"sync"
	"testing"

	"mortise/api"
	"mortise/code"
	"mortise/flow"
)

// strangeNumbers: those at which something begins or ends, and those at which sums wrap.
func strangeNumbers() []int {
	return []int{math.MinInt, math.MinInt + 1, -1 << 32, -1 << 31, -2, -1, 0, 1, 2, 3, 1 << 20, 1<<20 + 1, 1<<31 - 1, 1 << 31, 1 << 32, 1 << 62, math.MaxInt - 1, math.MaxInt}
}

// with: looks while a field is, one after the other, each of these, and puts back what it was.
func with[T any](field *T, to []T, look func()) {
	was := *field
	for _, x := range to {
		*field = x
		look()
	}
	*field = was
}

// everything: a program of each machine that is taken and has every one of its instructions, jumps that lead to jumps, and a ring.
func everything(encodes bool) api.Program {
	if encodes {
		return written(true, "leb; ret; l: upto 9; room -1; jump g; a: slot -1; append 0; g: again a; ret; m: many 3; b: each 5 0; again b; ret; n: many 3; c: number -1 2; again h; ret; k: many 3; d: flag -1; again d; ret; o: maybe h2; append 1; r: ret; u: choice 2; arm 0 x; arm 9 h3; x: append 1; ret; y: enter 1 0; ret; s: fields 7; room 6; number 0 1; numbers 1 2 1; flag 3; slot 4; append 1; leb; enter 8 0; ret; h: jump c; h2: jump h4; h3: jump y; h4: jump r; z: jump w; w: jump z; e: jump u | 0 l m n k o e s")
	}
	return written(false, "bool -1; ret; l: seq; first 9 r; jump s; a: offset 4; s: slots a; jump p; b: part -1 -1 0; tail -1; p: parts h; r: ret; m: seq; i: item 9 q; call -1 0; jump h2; q: ret; v: seq; c: varint -1; less 3 c; ret; o: option e; call 0 1; e: ret; u: union 2; arm 0 x; arm 9 h3; x: bool 0; jump z; y: uint 0 8; z: ret; t: struct; uint 0 1; uints 1 2 4; offset 9; offset 9; call 5 0; part 3 0 1; tail 0; part 4 1 2; tail 1; ret; h: jump b; h2: jump h4; h3: jump y; h4: jump i; n: jump w; w: jump n; d: jump u | 0 l m v o d t")
}

// P18.1: the calls end, and don't panic, at programs of which one field, the order or the number of things is another.
func TestAllPrograms(t *testing.T) {
	taken, refused := 0, 0
	for _, p := range []api.Program{written(false, "uint -1 1; ret | 0"), everything(false), everything(true)} {
		if f := modelAll(t, p); f != ok {
			t.Fatalf("the test's program is refused: %s: %v", brief(p), f)
		}
		look := func() {
			if modelAll(t, p) == ok {
				taken++
			} else {
				refused++
			}
		}
		with(&p.Encodes, []bool{!p.Encodes}, look)
		for k := range p.Entry {
			with(&p.Entry[k], append(strangeNumbers(), len(p.Code)-1, len(p.Code)), look)
			with(&p.Entry, [][]int{slices.Delete(slices.Clone(p.Entry), k, k+1), slices.Insert(slices.Clone(p.Entry), k, p.Entry[k])}, look)
		}
		for k := range p.Code {
			i := &p.Code[k]
			for _, field := range []*int{&i.Op, &i.A, &i.B, &i.C} {
				with(field, append(strangeNumbers(), len(p.Code)-1, len(p.Code), len(p.Entry)-1, len(p.Entry), *field-1, *field+1), look)
			}
			for op := range 50 {
				with(&p.Code[k], []api.Instr{{Op: op}, {Op: op, A: 1, B: 1}, {Op: op, A: -1, B: 1}}, look)
			}
			with(&p.Code, [][]api.Instr{slices.Delete(slices.Clone(p.Code), k, k+1), slices.Insert(slices.Clone(p.Code), k, p.Code[k]), p.Code[:k], p.Code[k:]}, look)
			for j := range k {
				l := slices.Clone(p.Code)
				l[j], l[k] = l[k], l[j]
				with(&p.Code, [][]api.Instr{l}, look)
			}
		}
		for at := range p.Code {
			if targeted(p.Code[at].Op) {
				for to := range p.Code {
					with(&p.Code[at].B, []int{to}, look)
				}
			}
		}
	}
	if taken < 500 || refused < 5000 {
		t.Errorf("only %d were taken, %d refused", taken, refused)
	}
}

// P18.1: all programs of one instruction whose numbers lie at the edges, alone, behind a routine and ahead of a ret.
func TestAllInstructions(t *testing.T) {
	numbers := []int{math.MinInt, -2, -1, 0, 1, 2, 8, 64, 1 << 20, math.MaxInt}
	for op := -1; op < 50; op++ {
		for _, a := range numbers {
			for _, b := range numbers {
				for _, c := range []int{-1, 0, 1} {
					i := api.Instr{Op: op, A: a, B: b, C: c}
					for _, encodes := range []bool{false, true} {
						text, _ := head(encodes)
						modelAll(t, api.Program{Encodes: encodes, Code: []api.Instr{i}, Entry: []int{0}})
						modelAll(t, api.Program{Encodes: encodes, Code: []api.Instr{i, {Op: 20}}, Entry: []int{0, 0}})
						behind := written(encodes, text+"| 0")
						behind.Code = append(behind.Code, i)
						modelAll(t, behind)
					}
				}
			}
		}
	}
}

// fewInstructions: an alphabet for programs of n instructions, all targets among it.
func fewInstructions(encodes bool, n int) (out []api.Instr) {
	targets := func(i api.Instr) {
		for i.B = range n {
			out = append(out, i)
		}
	}
	out = []api.Instr{{Op: 20}, {Op: 3, A: -1}, {Op: 5}, {Op: 8, A: 1}}
	branch := api.Instr{Op: 13, A: 1}
	if encodes {
		out = []api.Instr{{Op: 20}, {Op: 36}, {Op: 38, A: 1}, {Op: 41, A: 1}}
		branch = api.Instr{Op: 47}
	}
	targets(branch)
	targets(api.Instr{Op: 9})
	targets(api.Instr{Op: 19})
	return out
}

// P18.2 to P18.5: all programs of up to four instructions from a few, with no type, one and two.
func TestAllShortPrograms(t *testing.T) {
	taken := 0
	for _, encodes := range []bool{false, true} {
		for n := 1; n <= 4; n++ {
			few := fewInstructions(encodes, n)
			p := api.Program{Encodes: encodes, Code: make([]api.Instr, n)}
			var fillFrom func(at int)
			fillFrom = func(at int) {
				if at < n {
					for _, i := range few {
						p.Code[at] = i
						fillFrom(at + 1)
					}
					return
				}
				for _, p.Entry = range [][]int{nil, {0}, {n - 1, 0}} {
					// Of the longest ones those are looked at that may run.
					if code.Check(p) == ok && (n < 4 || p.Entry != nil) && modelAll(t, p) == ok {
						taken++
					}
				}
			}
			fillFrom(0)
		}
	}
	if taken < 4000 {
		t.Errorf("only %d were taken", taken)
	}
}

// roomy: a copy with spare room in its lists, and something in it that would be an instruction, an arm or an entry more.
func roomy(p api.Program) api.Program {
	p.Code = append(slices.Clip(slices.Clone(p.Code)), api.Instr{Op: 20}, api.Instr{Op: 9, A: 77}, api.Instr{Op: -1})[:len(p.Code)]
	p.Entry = append(slices.Clip(slices.Clone(p.Entry)), 0, -1, math.MaxInt)[:len(p.Entry)]
	return p
}

// held: all that a program's lists hold, spare room too.
func held(p api.Program) api.Program {
	return api.Program{Code: slices.Clone(p.Code[:cap(p.Code)]), Entry: slices.Clone(p.Entry[:cap(p.Entry)])}
}

// somePrograms: such as are taken, and such as are not.
func somePrograms(d *dice) []api.Program {
	out := []api.Program{{}, {Encodes: true}, {Code: []api.Instr{}, Entry: []int{}}, everything(false), everything(true), {Entry: []int{0}}, written(false, "uint -1 1 | 0"), written(false, lists), written(false, "jump 0"), written(true, "many 9; a: jump a | 0")}
	for n := range 150 {
		p := d.laidOut(n%2 == 0, 1+d.below(4))
		out = append(out, p, d.change(p), d.program(n%2 == 0, 1+d.below(9), d.below(3)))
	}
	return out
}

// P18.1: a program that is handed in is not changed, spare room too, and spare room is not looked at.
func TestChangesNothing(t *testing.T) {
	d := dice(21)
	for _, p := range somePrograms(&d) {
		x := roomy(p)
		before := held(x)
		if modelAll(t, x) != modelAll(t, p) {
			t.Errorf("P18.1: %s: spare room is looked at", brief(p))
		}
		if !code.Equal(before, held(x)) {
			t.Errorf("P18.1: %s: what is handed in is changed", brief(p))
		}
	}
}

// overwrite writes over a list, spare room too.
func overwrite[T any](l []T, x T) {
	l = l[:cap(l)]
	for k := range l {
		l[k] = x
	}
}

// all: it holds nothing else, spare room too.
func all[T comparable](l []T, x T) bool {
	return !slices.ContainsFunc(l[:cap(l)], func(y T) bool { return y != x })
}

// isNew: of a call that is made thrice: no answer shares memory with another one or with what was handed in, spare room too.
func isNew[T comparable](t *testing.T, name string, p api.Program, a, b T, call func(p api.Program) []T) {
	t.Helper()
	x := roomy(p)
	before := held(x)
	want := slices.Clone(call(x))
	first, second := call(x), call(x)
	overwrite(first, a)
	if !slices.Equal(second, want) {
		t.Errorf("P18.1: %s of %s: two answers share memory", name, brief(p))
	}
	overwrite(second, b)
	if !all(first, a) {
		t.Errorf("P18.1: %s of %s: two answers share spare room", name, brief(p))
	}
	if !code.Equal(before, held(x)) {
		t.Errorf("P18.1: %s of %s: an answer shares memory with what was handed in", name, brief(p))
	}
	third := call(x)
	overwrite(x.Code, api.Instr{Op: -1})
	overwrite(x.Entry, -1)
	if !slices.Equal(third, want) {
		t.Errorf("P18.1: %s of %s: the answer is changed with what was handed in", name, brief(p))
	}
	if !slices.Equal(call(p), want) {
		t.Errorf("P18.1: %s of %s: something of an answer is kept", name, brief(p))
	}
}

// P18.1: what is answered is new memory, spare room too, and is not kept.
func TestNewMemory(t *testing.T) {
	d := dice(22)
	asked := 0
	for _, p := range somePrograms(&d) {
		if modelAll(t, p) != ok {
			continue
		}
		asked++
		for at := range p.Code {
			isNew(t, "Targets", p, -7, -8, func(p api.Program) []int { l, _ := flow.Targets(p, at); return l })
		}
		// Two answers that share memory can't be all true and all false.
		isNew(t, "Reach", p, true, false, func(p api.Program) []bool { l, _ := flow.Reach(p); return l })
		isNew(t, "Blocks", p, -7, -8, func(p api.Program) []int { l, _ := flow.Blocks(p); return l })
		isNew(t, "Thread's entries", p, -7, -8, func(p api.Program) []int { q, _ := flow.Thread(p); return q.Entry })
		isNew(t, "Thread's code", p, api.Instr{Op: -7}, api.Instr{Op: -8}, func(p api.Program) []api.Instr { q, _ := flow.Thread(p); return q.Code })
	}
	if asked < 150 {
		t.Errorf("only %d were asked", asked)
	}
}

// P18.1: each call looks at what it is handed now.
func TestLooksAgain(t *testing.T) {
	p := written(false, "option 4; bool 0; ret; jump 2; jump 3 | 0")
	look := func(targets, reach, blocks, thread string) {
		t.Helper()
		targetsAre(t, p, 0, numbersOf(targets)...)
		reachIs(t, p, numbersOf(reach)...)
		blocksAre(t, p, numbersOf(blocks)...)
		threadIs(t, p, written(false, thread))
		modelAll(t, p)
	}
	look("1 4", "0 1 2 3 4", "0 1 2 3 4", "option 2; bool 0; ret; jump 2; jump 2 | 0")
	p.Code[0].B = 2
	look("1 2", "0 1 2", "0 1 2", "option 2; bool 0; ret; jump 2; jump 2 | 0")
	p.Code[3].B = 4
	look("1 2", "0 1 2", "0 1 2", "option 2; bool 0; ret; jump 4; jump 3 | 0")
	p.Code[0] = api.Instr{Op: 5}
	p.Code[1] = api.Instr{Op: 19, B: 2}
	look("1", "0 1 2", "0", "seq; jump 2; ret; jump 4; jump 3 | 0")
	p.Code[2] = api.Instr{Op: 19, B: 1}
	faultIs(t, p, bad(1))
	p.Entry = p.Entry[:0]
	look("1", "", "", "seq; jump 2; jump 1; jump 4; jump 3")
	p.Code = p.Code[:1]
	look("", "", "", "seq")
	p.Code[0].Op = 40
	faultIs(t, p, api.Fault{Err: api.ErrOp})
}

// P18.1: with an error the other answer is its zero value, whatever was answered ahead.
func TestZeroBesideError(t *testing.T) {
	for _, p := range []api.Program{everything(false), everything(true)} {
		for at := range p.Code {
			modelAll(t, p)
			with(&p.Code[at].Op, []int{0, 21, -1}, func() { faultIs(t, p, api.Fault{Err: api.ErrOp, At: formAt(p, at)}) })
		}
		for at := range p.Entry {
			with(&p.Entry[at], []int{-1, len(p.Code)}, func() { faultIs(t, p, api.Fault{Err: api.ErrPlace, At: at}) })
		}
	}
}

// formAt: where the form is missed, if one instruction is none: an arm is first missed by its union.
func formAt(p api.Program, at int) int {
	if owner := armOwner(p, at); owner >= 0 {
		return owner
	}
	return at
}

// P18.1: what a call answers hangs on its arguments alone: not on others at the same time.
func TestSameEachTime(t *testing.T) {
	d := dice(23)
	some := somePrograms(&d)
	var wait sync.WaitGroup
	wrong := make([]int, 8)
	for n := range wrong {
		wait.Go(func() {
			for k := range some {
				p := some[(k*(2*n+1)+n)%len(some)]
				q, f := flow.Thread(p)
				l, g := flow.Blocks(p)
				if f != g || f == ok && (!code.Equal(q, threadOf(p)) || !slices.Equal(l, blocksOf(p))) {
					wrong[n]++
				}
			}
		})
	}
	wait.Wait()
	if slices.Max(wrong) > 0 {
		t.Errorf("P18.1: other answers at the same time: %v", wrong)
	}
}
