package fuse_test

import (
	"math"
	"slices"
	"sync"
	"testing"

	"mortise/api"
	"mortise/code"
	"mortise/fuse"
)

// strangeNumbers: those at which something begins or ends, and those at which sums wrap.
func strangeNumbers() []int {
	return []int{math.MinInt, math.MinInt + 1, -1 << 32, -1 << 31, -2, -1, 0, 1, 2, 3, 8, 62, 63, 64, 65, 1 << 20, 1<<20 + 1, 1<<24 - 8, 1<<24 - 1, 1 << 24, 1<<31 - 1, 1 << 31, 1 << 32, 1 << 62, math.MaxInt - 1, math.MaxInt}
}

// with: looks while a field is, one after the other, each of these, and puts back what it was.
func with[T any](field *T, to []T, look func()) {
	was := *field
	for _, x := range to {
		*field = x
		look()
	}
	*field = was
}

// everything: a program of each machine that is taken and has every one of its instructions, runs at its first and last instructions, in a routine and behind all.
func everything(encodes bool) api.Program {
	if encodes {
		return written(true, "number 3 2; number 5 2; f: leb; ret; l: upto 9; room -1; jump g; a: slot -1; append 0; g: again a; ret; m: many 3; b: each 5 0; again b; ret; n: many 3; c: number -1 2; again c; ret; k: many 3; d: flag -1; again d; ret; o: maybe r; append 1; r: ret; u: choice 2; arm 0 x; arm 9 y; x: append 1; ret; y: enter 1 0; ret; s: fields 9; room 6; number 0 1; numbers 1 2 1; w: number 3 1; number 4 1; flag 5; slot 6; append 1; leb; enter 8 0; ret; v: fields 4; number 0 2; number 2 2; number 4 4; z: number 8 4; ret; jump w; number 0 8; number 8 8 | f l m n k o u s v z")
	}
	return written(false, "uint 3 2; uint 4 2; f: bool -1; ret; l: seq; first 9 r; jump s; a: offset 4; s: slots a; jump p; b: part -1 -1 0; tail -1; p: parts b; r: ret; m: seq; i: item 9 q; call -1 0; jump i; q: ret; v: seq; c: varint -1; less 3 c; ret; o: option e; call 0 1; e: ret; u: union 2; arm 0 x; arm 9 y; x: bool 0; jump z; y: uint 0 8; z: ret; t: struct; uint 0 1; uints 1 2 1; w: uint 3 1; uint 4 1; offset 9; offset 9; call 7 0; part 5 0 1; tail 0; part 6 1 2; tail 1; ret; k: struct; uint 0 2; uint 1 2; uint 2 4; ret; jump w; uint 0 8; uint 1 8 | f l m v o u t k")
}

// P19.1: the calls end, and don't panic, at programs of which one field, the order or the number of things is another.
func TestAllPrograms(t *testing.T) {
	taken, refused := 0, 0
	for _, p := range []api.Program{written(false, "uint -1 1; ret | 0"), written(true, "number 0 1; ret | 0"), everything(false), everything(true)} {
		if f := modelAll(t, p); f != ok {
			t.Fatalf("the test's program is refused: %s: %v", brief(p), f)
		}
		follows(t, p)
		look := func() {
			if modelAll(t, p) == ok {
				taken++
				follows(t, p)
			} else {
				refused++
			}
		}
		with(&p.Encodes, []bool{!p.Encodes}, look)
		for k := range p.Entry {
			with(&p.Entry[k], append(strangeNumbers(), len(p.Code)-1, len(p.Code)), look)
			with(&p.Entry, [][]int{slices.Delete(slices.Clone(p.Entry), k, k+1), slices.Insert(slices.Clone(p.Entry), k, p.Entry[k])}, look)
		}
		for k := range p.Code {
			i := &p.Code[k]
			for _, field := range []*int{&i.Op, &i.A, &i.B, &i.C} {
				with(field, append(strangeNumbers(), len(p.Code)-1, len(p.Code), len(p.Entry)-1, len(p.Entry), *field-1, *field+1), look)
			}
			for op := range 50 {
				with(&p.Code[k], []api.Instr{{Op: op}, {Op: op, A: 1, B: 1}, {Op: op, A: -1, B: 1}, {Op: op, A: 5, B: 2, C: 2}}, look)
			}
			with(&p.Code, [][]api.Instr{slices.Delete(slices.Clone(p.Code), k, k+1), slices.Insert(slices.Clone(p.Code), k, p.Code[k]), p.Code[:k], p.Code[k:]}, look)
			for j := range k {
				l := slices.Clone(p.Code)
				l[j], l[k] = l[k], l[j]
				with(&p.Code, [][]api.Instr{l}, look)
			}
		}
		for at := range p.Code {
			if targeted(p.Code[at].Op) {
				for to := range p.Code {
					with(&p.Code[at].B, []int{to}, look)
				}
			}
		}
	}
	if taken < 500 || refused < 5000 {
		t.Errorf("only %d were taken, %d refused", taken, refused)
	}
}

// P19.1: all programs of one instruction whose numbers lie at the edges, alone, ahead of a ret, and behind a routine twice.
func TestAllInstructions(t *testing.T) {
	numbers := []int{math.MinInt, -2, -1, 0, 1, 2, 8, 62, 63, 64, 1 << 20, 1<<24 - 2, 1<<24 - 1, 1 << 24, math.MaxInt}
	for op := -1; op < 50; op++ {
		for _, a := range numbers {
			for _, b := range numbers {
				for _, c := range []int{-1, 0, 1, 8} {
					i := api.Instr{Op: op, A: a, B: b, C: c}
					for _, encodes := range []bool{false, true} {
						modelAll(t, api.Program{Encodes: encodes, Code: []api.Instr{i}, Entry: []int{0}})
						modelAll(t, api.Program{Encodes: encodes, Code: []api.Instr{i, {Op: 20}}, Entry: []int{0, 0}})
						behind := written(encodes, head(encodes)+"| 0")
						behind.Code = append(behind.Code, i, i)
						modelAll(t, behind)
					}
				}
			}
		}
	}
}

// fewInstructions: an alphabet for programs of n instructions, all targets of jumps among it.
func fewInstructions(encodes bool, n int) (out []api.Instr) {
	out = []api.Instr{{Op: 20}, {Op: 6}, {Op: 1, A: -1, B: 1}, {Op: 1, A: 0, B: 1}, {Op: 1, A: 1, B: 1}, {Op: 1, A: 1, B: 2}, {Op: 1, A: 2, B: 1}, {Op: 2, A: 0, B: 2, C: 1}, {Op: 2, A: 1, B: 2, C: 1}, {Op: 2, A: 2, B: 2, C: 2}}
	if encodes {
		out = []api.Instr{{Op: 20}, {Op: 39, A: 2}, {Op: 39, A: 3}, {Op: 33, A: -1, B: 1}, {Op: 33, A: 0, B: 1}, {Op: 33, A: 1, B: 1}, {Op: 33, A: 1, B: 2}, {Op: 33, A: 3, B: 2}, {Op: 34, A: 0, B: 2, C: 2}, {Op: 34, A: 1, B: 2, C: 1}}
	}
	for to := range n {
		out = append(out, api.Instr{Op: 19, B: to})
	}
	return out
}

// P19.2 to P19.7: all programs of up to four instructions from a few, with no type, one and two.
func TestAllShortPrograms(t *testing.T) {
	taken := 0
	for _, encodes := range []bool{false, true} {
		for n := 1; n <= 4; n++ {
			few := fewInstructions(encodes, n)
			p := api.Program{Encodes: encodes, Code: make([]api.Instr, n)}
			var fillFrom func(at int)
			fillFrom = func(at int) {
				if at < n {
					for _, i := range few {
						p.Code[at] = i
						fillFrom(at + 1)
					}
					return
				}
				for _, p.Entry = range [][]int{nil, {0}, {n - 1, 0}} {
					if modelAll(t, p) == ok {
						taken++
						follows(t, p)
					}
				}
			}
			fillFrom(0)
		}
	}
	if taken < 4000 {
		t.Errorf("only %d were taken", taken)
	}
}

// roomy: a copy with spare room in its lists, and something in it that would go on, or be an entry more.
func roomy(p api.Program) api.Program {
	more := []api.Instr{{Op: 20}, {Op: 9, A: 77}, {Op: -1}}
	if n := len(p.Code); n > 0 {
		if l, w := fieldList(p.Code[n-1]); len(l) > 0 {
			next := l[len(l)-1] + 1
			if p.Encodes {
				next += w - 1
			}
			more[0] = api.Instr{Op: 1, A: next, B: w}
			if p.Encodes {
				more[0].Op = 33
			}
		}
	}
	p.Code = append(slices.Clip(slices.Clone(p.Code)), more...)[:len(p.Code)]
	p.Entry = append(slices.Clip(slices.Clone(p.Entry)), 0, -1, math.MaxInt)[:len(p.Entry)]
	return p
}

// held: all that a program's lists hold, spare room too.
func held(p api.Program) api.Program {
	return api.Program{Code: slices.Clone(p.Code[:cap(p.Code)]), Entry: slices.Clone(p.Entry[:cap(p.Entry)])}
}

// somePrograms: such as are taken, and such as are not.
func somePrograms(d *dice) []api.Program {
	out := []api.Program{{}, {Encodes: true}, {Code: []api.Instr{}, Entry: []int{}}, everything(false), everything(true), {Entry: []int{0}}, written(false, "uint -1 1 | 0"), written(false, "uint 0 1; uint 1 1"), written(true, "number 0 1; numbers 1 2 1"), written(true, "many 9; a: jump a | 0")}
	for n := range 150 {
		p := d.laidOut(n%2 == 0, 1+d.below(4))
		out = append(out, p, d.change(p), d.program(n%2 == 0, 1+d.below(9), d.below(3)))
	}
	return out
}

// P19.1: a program that is handed in is not changed, spare room too, and spare room is not looked at.
func TestChangesNothing(t *testing.T) {
	d := dice(21)
	for _, p := range somePrograms(&d) {
		x := roomy(p)
		before := held(x)
		if modelAll(t, x) != modelAll(t, p) {
			t.Errorf("P19.1: %s: spare room is looked at", brief(p))
		}
		if !code.Equal(before, held(x)) {
			t.Errorf("P19.1: %s: what is handed in is changed", brief(p))
		}
	}
}

// overwrite writes over a list, spare room too.
func overwrite[T any](l []T, x T) {
	l = l[:cap(l)]
	for k := range l {
		l[k] = x
	}
}

// all: it holds nothing else, spare room too.
func all[T comparable](l []T, x T) bool {
	return !slices.ContainsFunc(l[:cap(l)], func(y T) bool { return y != x })
}

// isNew: of a call that is made thrice: no answer shares memory with another one or with what was handed in, spare room too.
func isNew[T comparable](t *testing.T, name string, p api.Program, a, b T, call func(p api.Program) []T) {
	t.Helper()
	x := roomy(p)
	before := held(x)
	want := slices.Clone(call(x))
	first, second := call(x), call(x)
	overwrite(first, a)
	if !slices.Equal(second, want) {
		t.Errorf("P19.1: %s of %s: two answers share memory", name, brief(p))
	}
	overwrite(second, b)
	if !all(first, a) {
		t.Errorf("P19.1: %s of %s: two answers share spare room", name, brief(p))
	}
	if !code.Equal(before, held(x)) {
		t.Errorf("P19.1: %s of %s: an answer shares memory with what was handed in", name, brief(p))
	}
	third := call(x)
	overwrite(x.Code, api.Instr{Op: -1})
	overwrite(x.Entry, -1)
	if !slices.Equal(third, want) {
		t.Errorf("P19.1: %s of %s: the answer is changed with what was handed in", name, brief(p))
	}
	if !slices.Equal(call(p), want) {
		t.Errorf("P19.1: %s of %s: something of an answer is kept", name, brief(p))
	}
}

// P19.1: what is answered is new memory, spare room too, and is not kept; the code of which nothing comes but itself, too.
func TestNewMemory(t *testing.T) {
	d := dice(22)
	asked := 0
	for _, p := range somePrograms(&d) {
		if modelAll(t, p) != ok {
			continue
		}
		asked++
		for name, call := range map[string]func(api.Program) (api.Program, api.Fault){"Fuse": fuse.Fuse, "Split": fuse.Split} {
			for _, p := range []api.Program{p, answer(t, name, call, p)} {
				isNew(t, name+"'s entries", p, -7, -8, func(p api.Program) []int { q, _ := call(p); return q.Entry })
				isNew(t, name+"'s code", p, api.Instr{Op: -7}, api.Instr{Op: -8}, func(p api.Program) []api.Instr { q, _ := call(p); return q.Code })
			}
		}
	}
	if asked < 150 {
		t.Errorf("only %d were asked", asked)
	}
}

// P19.1: each call looks at what it is handed now.
func TestLooksAgain(t *testing.T) {
	p := written(true, "fields 3; number 0 1; number 1 1; number 2 1; ret; jump 4 | 0")
	look := func(fused, split string) {
		t.Helper()
		fuseIs(t, p, written(true, fused))
		splitIs(t, p, written(true, split))
		modelAll(t, p)
	}
	look("fields 3; numbers 0 3 1; ret; jump 2 | 0", "fields 3; number 0 1; number 1 1; number 2 1; ret; jump 4 | 0")
	p.Code[5].B = 2
	look("fields 3; number 0 1; numbers 1 2 1; ret; jump 2 | 0", "fields 3; number 0 1; number 1 1; number 2 1; ret; jump 2 | 0")
	p.Code[2].A = 2
	look("fields 3; number 0 1; number 2 1; number 2 1; ret; jump 2 | 0", "fields 3; number 0 1; number 2 1; number 2 1; ret; jump 2 | 0")
	p.Code[3].A = 3
	p.Entry = append(p.Entry, 3)
	look("fields 3; number 0 1; number 2 1; number 3 1; ret; jump 2 | 0 3", "fields 3; number 0 1; number 2 1; number 3 1; ret; jump 2 | 0 3")
	p.Entry = p.Entry[:1]
	look("fields 3; number 0 1; numbers 2 2 1; ret; jump 2 | 0", "fields 3; number 0 1; number 2 1; number 3 1; ret; jump 2 | 0")
	p.Code[0].A = 4
	faultIs(t, p, bad(4))
	p.Code[3] = api.Instr{Op: 34, A: 3, B: 2, C: 1}
	look("fields 4; number 0 1; numbers 2 3 1; ret; jump 2 | 0", "fields 4; number 0 1; number 2 1; number 3 1; number 4 1; ret; jump 2 | 0")
	p.Code = p.Code[:5]
	p.Entry = p.Entry[:0]
	look("fields 4; number 0 1; numbers 2 3 1; ret", "fields 4; number 0 1; number 2 1; number 3 1; number 4 1; ret")
	p.Encodes = false
	faultIs(t, p, api.Fault{Err: api.ErrOp})
}

// P19.1: what a call answers hangs on its arguments alone: not on others at the same time.
func TestSameEachTime(t *testing.T) {
	d := dice(23)
	some := somePrograms(&d)
	var wait sync.WaitGroup
	wrong := make([]int, 8)
	for n := range wrong {
		wait.Go(func() {
			for k := range some {
				p := some[(k*(2*n+1)+n)%len(some)]
				q, f := fuse.Fuse(p)
				r, g := fuse.Split(p)
				if f != g {
					wrong[n]++
				}
				if f == ok {
					if s, _ := splitOf(p); !code.Equal(q, fuseOf(p)) || !code.Equal(r, s) {
						wrong[n]++
					}
				}
			}
		})
	}
	wait.Wait()
	if slices.Max(wrong) > 0 {
		t.Errorf("P19.1: other answers at the same time: %v", wrong)
	}
}
