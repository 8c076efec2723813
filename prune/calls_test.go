package prune_test

import (
	"math"
	"slices"
	"sync"
	"testing"

	"mortise/api"
	"mortise/code"
	"mortise/prune"
)

// strangeNumbers: those at which something begins or ends, and those at which sums wrap.
func strangeNumbers() []int {
	return []int{math.MinInt, math.MinInt + 1, -1 << 32, -1 << 31, -2, -1, 0, 1, 2, 3, 8, 62, 63, 64, 65, 1 << 20, 1<<20 + 1, 1<<24 - 8, 1<<24 - 1, 1 << 24, 1<<31 - 1, 1 << 31, 1 << 32, 1 << 62, math.MaxInt - 1, math.MaxInt}
}

// with: looks while a field is, one after the other, each of these, and puts back what it was.
func with[T any](field *T, to []T, look func()) {
	was := *field
	for _, x := range to {
		*field = x
		look()
	}
	*field = was
}

// whole: a program of each machine that is taken and has every one of its instructions, all of them reached, in which no pass finds anything.
func whole(encodes bool) api.Program {
	if encodes {
		return written(true, "leb; ret; l: upto 9; room -1; jump g; a: slot -1; append 0; g: again a; ret; m: many 3; b: each 5 0; again b; ret; n: many 3; c: number -1 2; again c; ret; k: many 3; d: flag -1; again d; ret; o: maybe r; append 1; r: ret; u: choice 2; arm 0 x; arm 9 y; x: append 1; ret; y: enter 1 0; ret; s: fields 8; room 6; number 0 2; numbers 2 2 1; flag 4; slot 5; append 1; leb; number 9 8; enter 17 0; ret | 0 l m n k o u s")
	}
	return written(false, "bool -1; ret; l: seq; first 9 r; jump s; a: offset 4; s: slots a; jump p; b: part -1 -1 0; tail -1; p: parts b; r: ret; m: seq; i: item 9 q; call -1 0; jump i; q: ret; v: seq; c: varint -1; less 3 c; ret; o: option e; call 0 1; e: ret; u: union 2; arm 0 x; arm 9 y; x: bool 0; jump z; y: uint 0 8; z: ret; t: struct; uint 0 1; uints 1 2 4; offset 9; offset 9; call 5 0; part 3 0 1; tail 0; part 4 1 2; tail 1; ret | 0 l m v o u t")
}

// everything: the same with jumps that lead to jumps, runs, rings, and what is never reached at its beginning, between and at its end, which leads into a run.
func everything(encodes bool) api.Program {
	if encodes {
		return written(true, "number 3 2; number 5 2; f: leb; ret; l: upto 9; room -1; jump g; a: slot -1; append 0; g: again a; ret; again w; m: many 3; b: each 5 0; again b; ret; n: many 3; c: number -1 2; again h; ret; k: many 3; d: flag -1; again d; ret; o: maybe h2; append 1; r: ret; u: choice 2; arm 0 x; arm 9 h3; choice 1; arm 7 w; x: append 1; ret; y: enter 1 0; ret; s: fields 9; room 6; number 0 1; numbers 1 2 1; w: number 3 1; number 4 1; flag 5; slot 6; append 1; leb; enter 8 0; ret; v: fields 4; number 0 2; number 2 2; number 4 4; z: number 8 4; ret; h: jump c; h2: jump h4; h3: jump y; h4: jump r; j: jump i; i: jump j; e: jump u; jump w; number 0 8; number 8 8 | f l m n k o e s v z")
	}
	return written(false, "uint 3 2; uint 4 2; f: bool -1; ret; l: seq; first 9 r; jump s; a: offset 4; s: slots a; jump p; b: part -1 -1 0; tail -1; p: parts h; r: ret; less 3 w; m: seq; i: item 9 q; call -1 0; jump h2; q: ret; v: seq; c: varint -1; less 3 c; ret; o: option e; call 0 1; e: ret; u: union 2; arm 0 x; arm 9 h3; union 1; arm 7 w; x: bool 0; jump z; y: uint 0 8; z: ret; t: struct; uint 0 1; uints 1 2 1; w: uint 3 1; uint 4 1; offset 9; offset 9; call 7 0; part 5 0 1; tail 0; part 6 1 2; tail 1; ret; k: struct; uint 0 2; uint 1 2; uint 2 4; ret; h: jump b; h2: jump h4; h3: jump y; h4: jump i; n: jump g; g: jump n; d: jump u; jump w; uint 0 8; uint 1 8 | f l m v o d t k")
}

// P20.1: the calls end, and don't panic, at programs of which one field, the order or the number of things is another.
func TestAllPrograms(t *testing.T) {
	taken, refused := 0, 0
	for _, p := range []api.Program{written(false, "uint -1 1; ret | 0"), written(true, "number 0 1; ret | 0"), whole(false), whole(true), everything(false), everything(true)} {
		if f := modelAll(t, p); f != ok {
			t.Fatalf("the test's program is refused: %s: %v", brief(p), f)
		}
		follows(t, p)
		look := func() {
			if modelAll(t, p) == ok {
				taken++
				follows(t, p)
			} else {
				refused++
			}
		}
		with(&p.Encodes, []bool{!p.Encodes}, look)
		for k := range p.Entry {
			with(&p.Entry[k], append(strangeNumbers(), len(p.Code)-1, len(p.Code)), look)
			with(&p.Entry, [][]int{slices.Delete(slices.Clone(p.Entry), k, k+1), slices.Insert(slices.Clone(p.Entry), k, p.Entry[k])}, look)
		}
		for k := range p.Code {
			i := &p.Code[k]
			for _, field := range []*int{&i.Op, &i.A, &i.B, &i.C} {
				with(field, append(strangeNumbers(), len(p.Code)-1, len(p.Code), len(p.Entry)-1, len(p.Entry), *field-1, *field+1), look)
			}
			for op := range 50 {
				with(&p.Code[k], []api.Instr{{Op: op}, {Op: op, A: 1, B: 1}, {Op: op, A: -1, B: 1}, {Op: op, A: 5, B: 2, C: 2}}, look)
			}
			with(&p.Code, [][]api.Instr{slices.Delete(slices.Clone(p.Code), k, k+1), slices.Insert(slices.Clone(p.Code), k, p.Code[k]), p.Code[:k], p.Code[k:]}, look)
			for j := range k {
				l := slices.Clone(p.Code)
				l[j], l[k] = l[k], l[j]
				with(&p.Code, [][]api.Instr{l}, look)
			}
		}
		for at := range p.Code {
			if targeted(p.Code[at].Op) {
				for to := range p.Code {
					with(&p.Code[at].B, []int{to}, look)
				}
			}
		}
	}
	if taken < 500 || refused < 5000 {
		t.Errorf("only %d were taken, %d refused", taken, refused)
	}
}

// P20.1: all programs of one instruction whose numbers lie at the edges, alone, ahead of a ret, and behind a routine twice.
func TestAllInstructions(t *testing.T) {
	numbers := []int{math.MinInt, -2, -1, 0, 1, 2, 8, 62, 63, 64, 1 << 20, 1<<24 - 2, 1<<24 - 1, 1 << 24, math.MaxInt}
	for op := -1; op < 50; op++ {
		for _, a := range numbers {
			for _, b := range numbers {
				for _, c := range []int{-1, 0, 1, 8} {
					i := api.Instr{Op: op, A: a, B: b, C: c}
					for _, encodes := range []bool{false, true} {
						modelAll(t, api.Program{Encodes: encodes, Code: []api.Instr{i}, Entry: []int{0}})
						modelAll(t, api.Program{Encodes: encodes, Code: []api.Instr{i, {Op: 20}}, Entry: []int{0, 0}})
						behind := written(encodes, head(encodes)+"| 0")
						behind.Code = append(behind.Code, i, i)
						modelAll(t, behind)
					}
				}
			}
		}
	}
}

// fewWays: an alphabet for programs of n instructions: the shortest routines, and such as have targets, to each instruction.
func fewWays(encodes bool, n int) (out []api.Instr) {
	out = []api.Instr{{Op: 20}, {Op: 3, A: -1}, {Op: 5}, {Op: 8, A: 1}}
	branch := api.Instr{Op: 13, A: 1}
	if encodes {
		out = []api.Instr{{Op: 20}, {Op: 36}, {Op: 38, A: 1}, {Op: 41, A: 1}}
		branch = api.Instr{Op: 47}
	}
	for _, i := range []api.Instr{branch, {Op: 9}, {Op: 19}} {
		for i.B = range n {
			out = append(out, i)
		}
	}
	return out
}

// fewFields: another one: structs of numbers, and jumps to each instruction.
func fewFields(encodes bool, n int) (out []api.Instr) {
	out = []api.Instr{{Op: 20}, {Op: 6}, {Op: 1, A: 0, B: 1}, {Op: 1, A: 1, B: 1}, {Op: 2, A: 0, B: 2, C: 1}}
	if encodes {
		out = []api.Instr{{Op: 20}, {Op: 39, A: 2}, {Op: 33, A: 0, B: 1}, {Op: 33, A: 1, B: 1}, {Op: 34, A: 0, B: 2, C: 1}}
	}
	for to := range n {
		out = append(out, api.Instr{Op: 19, B: to})
	}
	return out
}

// eachOf: calls look for all programs of n instructions from a few, with no type, one and two.
func eachOf(encodes bool, few []api.Instr, n int, look func(p api.Program)) {
	p := api.Program{Encodes: encodes, Code: make([]api.Instr, n)}
	var fillFrom func(at int)
	fillFrom = func(at int) {
		if at < n {
			for _, i := range few {
				p.Code[at] = i
				fillFrom(at + 1)
			}
			return
		}
		for _, p.Entry = range [][]int{nil, {0}, {n - 1, 0}} {
			// Of the longest ones those are looked at that have a type.
			if code.Check(p) == ok && (n < 4 || p.Entry != nil) {
				look(p)
			}
		}
	}
	fillFrom(0)
}

// P20.2 to P20.6: all programs of up to four instructions, and of up to five, from a few.
func TestAllShortPrograms(t *testing.T) {
	taken := 0
	look := func(p api.Program) {
		if modelAll(t, p) == ok {
			taken++
			follows(t, p)
		}
	}
	for _, encodes := range []bool{false, true} {
		for n := 1; n <= 4; n++ {
			eachOf(encodes, fewWays(encodes, n), n, look)
		}
		for n := 1; n <= 5; n++ {
			eachOf(encodes, fewFields(encodes, n), n, look)
		}
	}
	if taken < 4000 {
		t.Errorf("only %d were taken", taken)
	}
}

// roomy: a copy with spare room in its lists, and something in it that would be an instruction, an arm or an entry more.
func roomy(p api.Program) api.Program {
	p.Code = append(slices.Clip(slices.Clone(p.Code)), api.Instr{Op: 20}, api.Instr{Op: 9, A: 77}, api.Instr{Op: -1})[:len(p.Code)]
	p.Entry = append(slices.Clip(slices.Clone(p.Entry)), 0, -1, math.MaxInt)[:len(p.Entry)]
	return p
}

// held: all that a program's lists hold, spare room too.
func held(p api.Program) api.Program {
	return api.Program{Code: slices.Clone(p.Code[:cap(p.Code)]), Entry: slices.Clone(p.Entry[:cap(p.Entry)])}
}

// somePrograms: such as are taken, and such as are not.
func somePrograms(d *dice) []api.Program {
	out := []api.Program{{}, {Encodes: true}, {Code: []api.Instr{}, Entry: []int{}}, whole(false), whole(true), everything(false), everything(true), {Entry: []int{0}}, written(false, "uint -1 1 | 0"), written(false, "uint 0 1; uint 1 1"), written(true, "number 0 1; numbers 1 2 1"), written(true, "many 9; a: jump a | 0")}
	for n := range 150 {
		p := d.laidOut(n%2 == 0, 1+d.below(4))
		out = append(out, p, d.change(p), d.program(n%2 == 0, 1+d.below(9), d.below(3)))
	}
	return out
}

// P20.1: a program that is handed in is not changed, spare room too, and spare room is not looked at.
func TestChangesNothing(t *testing.T) {
	d := dice(21)
	for _, p := range somePrograms(&d) {
		x := roomy(p)
		before := held(x)
		if modelAll(t, x) != modelAll(t, p) {
			t.Errorf("P20.1: %s: spare room is looked at", brief(p))
		}
		if !code.Equal(before, held(x)) {
			t.Errorf("P20.1: %s: what is handed in is changed", brief(p))
		}
	}
}

// overwrite writes over a list, spare room too.
func overwrite[T any](l []T, x T) {
	l = l[:cap(l)]
	for k := range l {
		l[k] = x
	}
}

// all: it holds nothing else, spare room too.
func all[T comparable](l []T, x T) bool {
	return !slices.ContainsFunc(l[:cap(l)], func(y T) bool { return y != x })
}

// isNew: of a call that is made thrice: no answer shares memory with another one or with what was handed in, spare room too.
func isNew[T comparable](t *testing.T, name string, p api.Program, a, b T, call func(p api.Program) []T) {
	t.Helper()
	x := roomy(p)
	before := held(x)
	want := slices.Clone(call(x))
	first, second := call(x), call(x)
	overwrite(first, a)
	if !slices.Equal(second, want) {
		t.Errorf("P20.1: %s of %s: two answers share memory", name, brief(p))
	}
	overwrite(second, b)
	if !all(first, a) {
		t.Errorf("P20.1: %s of %s: two answers share spare room", name, brief(p))
	}
	if !code.Equal(before, held(x)) {
		t.Errorf("P20.1: %s of %s: an answer shares memory with what was handed in", name, brief(p))
	}
	third := call(x)
	overwrite(x.Code, api.Instr{Op: -1})
	overwrite(x.Entry, -1)
	if !slices.Equal(third, want) {
		t.Errorf("P20.1: %s of %s: the answer is changed with what was handed in", name, brief(p))
	}
	if !slices.Equal(call(p), want) {
		t.Errorf("P20.1: %s of %s: something of an answer is kept", name, brief(p))
	}
}

// P20.1: what is answered is new memory, spare room too, and is not kept; the code of which nothing comes but itself, too.
func TestNewMemory(t *testing.T) {
	d := dice(22)
	asked := 0
	for _, p := range somePrograms(&d) {
		if modelAll(t, p) != ok {
			continue
		}
		asked++
		for name, call := range map[string]func(api.Program) (api.Program, api.Fault){"Prune": prune.Prune, "Optimise": prune.Optimise} {
			for _, p := range []api.Program{p, answer(t, name, call, p)} {
				isNew(t, name+"'s entries", p, -7, -8, func(p api.Program) []int { q, _ := call(p); return q.Entry })
				isNew(t, name+"'s code", p, api.Instr{Op: -7}, api.Instr{Op: -8}, func(p api.Program) []api.Instr { q, _ := call(p); return q.Code })
			}
		}
	}
	if asked < 150 {
		t.Errorf("only %d were asked", asked)
	}
}

// P20.1: each call looks at what it is handed now.
func TestLooksAgain(t *testing.T) {
	p := written(true, "jump 2; leb; fields 2; number 0 1; number 1 1; ret; jump 4 | 0")
	look := func(pruned, best string) {
		t.Helper()
		pruneIs(t, p, written(true, pruned))
		optimiseIs(t, p, written(true, best))
		modelAll(t, p)
	}
	look("jump 1; fields 2; number 0 1; number 1 1; ret | 0", "fields 2; numbers 0 2 1; ret | 0")
	p.Entry = append(p.Entry, 6)
	look("jump 1; fields 2; number 0 1; number 1 1; ret; jump 3 | 0 5", "fields 2; number 0 1; number 1 1; ret | 0 2")
	p.Entry = p.Entry[:1]
	look("jump 1; fields 2; number 0 1; number 1 1; ret | 0", "fields 2; numbers 0 2 1; ret | 0")
	p.Code[0].B = 1
	faultIs(t, p, bad(2))
	p.Code[2] = api.Instr{Op: 20}
	look("jump 1; leb; ret | 0", "leb; ret | 0")
	p.Entry[0] = 1
	look("leb; ret | 0", "leb; ret | 0")
	p.Entry[0] = 6
	look("number 1 1; ret; jump 0 | 2", "number 1 1; ret | 0")
	p.Code = p.Code[:3]
	faultIs(t, p, api.Fault{Err: api.ErrPlace})
	p.Entry = p.Entry[:0]
	pruneIs(t, p, api.Program{Encodes: true})
	optimiseIs(t, p, api.Program{Encodes: true})
	p.Encodes = false
	faultIs(t, p, api.Fault{Err: api.ErrOp, At: 1})
}

// P20.1: what a call answers hangs on its arguments alone: not on others at the same time.
func TestSameEachTime(t *testing.T) {
	d := dice(23)
	some := somePrograms(&d)
	var wait sync.WaitGroup
	wrong := make([]int, 8)
	for n := range wrong {
		wait.Go(func() {
			for k := range some {
				p := some[(k*(2*n+1)+n)%len(some)]
				q, f := prune.Prune(p)
				r, g := prune.Optimise(p)
				if f != g {
					wrong[n]++
				}
				if f == ok {
					if best, _ := optimiseOf(p); !code.Equal(q, pruneOf(p)) || !code.Equal(r, best) {
						wrong[n]++
					}
				}
			}
		})
	}
	wait.Wait()
	if slices.Max(wrong) > 0 {
		t.Errorf("P20.1: other answers at the same time: %v", wrong)
	}
}
