package sound_test

import (
	"math"
	"slices"
	"testing"

	"mortise/api"
	"mortise/sound"
)

// strangeNumbers: those at which something begins or ends, and those at which sums wrap.
func strangeNumbers() []int {
	return []int{math.MinInt, math.MinInt + 1, -1 << 32, -1 << 31, -2, -1, 0, 1, 2, 3, 4, 8, 9, 20, 33, 47, 63, 64, 65, 255, 256, 1 << 20, 1<<20 + 1, 1 << 22, 1<<22 + 1, 1 << 24, 1<<24 + 1, 1<<31 - 1, 1 << 31, 1 << 32, 1 << 62, math.MaxInt - 1, math.MaxInt}
}

// turned: looks while a field is, one after the other, each of these, and puts back what it was.
func turned[T any](field *T, to []T, look func()) {
	was := *field
	for _, x := range to {
		*field = x
		look()
	}
	*field = was
}

// everything: a program of each machine that is taken and has every one of its instructions.
func everything(encodes bool) api.Program {
	if encodes {
		return written(true, "leb; ret; l: upto 9; room -1; jump g; a: slot -1; append 0; g: again a; ret; m: many 3; b: each 5 0; again b; ret; n: many 3; c: number -1 2; again c; ret; k: many 3; d: flag -1; again d; ret; o: maybe r; append 1; r: ret; u: choice 2; arm 0 x; arm 9 y; x: append 1; ret; y: enter 1 0; ret; s: fields 7; room 6; number 0 1; numbers 1 2 1; flag 3; slot 4; append 1; leb; enter 8 0; ret; jump 0 | 0 l m n k o u s")
	}
	return written(false, "bool -1; ret; l: seq; first 9 r; jump s; a: offset 4; s: slots a; jump p; b: part -1 -1 0; tail -1; p: parts b; r: ret; m: seq; i: item 9 q; call -1 0; jump i; q: ret; v: seq; c: varint -1; less 3 c; ret; o: option e; call 0 1; e: ret; u: union 2; arm 0 x; arm 9 y; x: bool 0; jump z; y: uint 0 8; z: ret; t: struct; uint 0 1; uints 1 2 4; offset 9; offset 9; call 5 0; part 3 0 1; tail 0; part 4 1 2; tail 1; ret; jump 0 | 0 l m v o u t")
}

// P15.1: the calls end, and don't panic, at programs of which one field, the order or the number of things is another.
func TestAllPrograms(t *testing.T) {
	for _, p := range []api.Program{written(false, "uint -1 1; ret | 0"), everything(false), everything(true)} {
		if modelAll(t, p) != ok {
			t.Fatalf("the test's program is refused: %s: %v", brief(p), sound.Verify(p))
		}
		look := func() { modelAll(t, p) }
		turned(&p.Encodes, []bool{!p.Encodes}, look)
		for k := range p.Entry {
			turned(&p.Entry[k], append(strangeNumbers(), len(p.Code)-1, len(p.Code)), look)
			turned(&p.Entry, [][]int{slices.Delete(slices.Clone(p.Entry), k, k+1), slices.Insert(slices.Clone(p.Entry), k, p.Entry[k])}, look)
		}
		for k := range p.Code {
			i := &p.Code[k]
			for _, field := range []*int{&i.Op, &i.A, &i.B, &i.C} {
				turned(field, append(strangeNumbers(), len(p.Code)-1, len(p.Code), len(p.Entry)-1, len(p.Entry), *field-1, *field+1), look)
			}
			for op := range 50 {
				turned(&p.Code[k], []api.Instr{{Op: op}, {Op: op, A: 1, B: 1}, {Op: op, A: -1, B: 1}, {Op: op, A: 4, B: 2}}, look)
			}
			turned(&p.Code, [][]api.Instr{slices.Delete(slices.Clone(p.Code), k, k+1), slices.Insert(slices.Clone(p.Code), k, p.Code[k]), p.Code[:k], p.Code[k:]}, look)
			for j := range k {
				l := slices.Clone(p.Code)
				l[j], l[k] = l[k], l[j]
				turned(&p.Code, [][]api.Instr{l}, look)
			}
		}
	}
}

// P15.1: all programs of one instruction whose numbers lie at the edges, alone and ahead of a ret.
func TestAllInstructions(t *testing.T) {
	numbers := []int{math.MinInt, -2, -1, 0, 1, 2, 8, 63, 64, 1 << 20, 1 << 24, math.MaxInt}
	for op := -1; op < 70; op++ {
		for _, a := range numbers {
			for _, b := range numbers {
				for _, c := range []int{math.MinInt, -1, 0, 1, 4, math.MaxInt} {
					i := api.Instr{Op: op, A: a, B: b, C: c}
					for _, encodes := range []bool{false, true} {
						modelAll(t, api.Program{Encodes: encodes, Code: []api.Instr{i}, Entry: []int{0}})
						modelAll(t, api.Program{Encodes: encodes, Code: []api.Instr{i, {Op: 20}}, Entry: []int{0, 0}})
					}
				}
			}
		}
	}
}

// roomy: a copy with spare room in its lists, and something in it that would be an instruction, an arm or an entry more.
func roomy(p api.Program) api.Program {
	p.Code = append(slices.Clip(slices.Clone(p.Code)), api.Instr{Op: 20}, api.Instr{Op: 9, A: 77}, api.Instr{Op: -1})[:len(p.Code)]
	p.Entry = append(slices.Clip(slices.Clone(p.Entry)), 0, -1, math.MaxInt)[:len(p.Entry)]
	return p
}

// held: all that a program's lists hold, spare room too.
func held(p api.Program) ([]api.Instr, []int) {
	return slices.Clone(p.Code[:cap(p.Code)]), slices.Clone(p.Entry[:cap(p.Entry)])
}

// somePrograms: such as are taken, and such as are not, by either look or code.Check.
func somePrograms(d *dice) []api.Program {
	out := []api.Program{{}, {Encodes: true}, everything(false), everything(true), {Entry: []int{0}}, written(false, "uint -1 1 | 0"), written(false, "uint -1 1; ret | 0"), written(false, "union 1; arm 0 0 | 0"), written(true, "many 9; a: jump a | 0")}
	for n := range 200 {
		p := d.laid(n%2 == 0, 1+d.below(4))
		out = append(out, p, d.change(p), d.program(n%2 == 0, 1+d.below(9), d.below(3)))
	}
	return out
}

// P15.1: a program that is handed in is not changed, spare room too, and spare room is not looked at.
func TestChangesNothing(t *testing.T) {
	d := dice(21)
	for _, p := range somePrograms(&d) {
		x := roomy(p)
		code, entry := held(x)
		if modelAll(t, x) != modelAll(t, p) {
			t.Errorf("P15.1: %s: spare room is looked at", brief(p))
		}
		laterCode, laterEntry := held(x)
		if !slices.Equal(code, laterCode) || !slices.Equal(entry, laterEntry) {
			t.Errorf("P15.1: %s: what is handed in is changed", brief(p))
		}
	}
}

// overwrite writes over a list, spare room too.
func overwrite[T any](l []T, x T) {
	l = l[:cap(l)]
	for k := range l {
		l[k] = x
	}
}

// P15.1: what Shape answers is new memory, spare room too, and nothing of it is kept or shared with what was handed in.
func TestNewMemory(t *testing.T) {
	d := dice(22)
	asked := 0
	for _, p := range somePrograms(&d) {
		x := roomy(p)
		code, entry := held(x)
		first, f := sound.Shape(x)
		if f != ok {
			continue
		}
		asked++
		second, _ := sound.Shape(x)
		want := slices.Clone(second)
		overwrite(first, -7)
		if !slices.Equal(second, want) {
			t.Errorf("P15.1: %s: two answers share memory", brief(p))
		}
		overwrite(second, -8)
		if slices.ContainsFunc(first[:cap(first)], func(n int) bool { return n != -7 }) {
			t.Errorf("P15.1: %s: two answers share spare room", brief(p))
		}
		laterCode, laterEntry := held(x)
		if !slices.Equal(code, laterCode) || !slices.Equal(entry, laterEntry) {
			t.Errorf("P15.1: %s: an answer shares memory with what was handed in", brief(p))
		}
		modelAll(t, x)
		third, _ := sound.Shape(x)
		overwrite(x.Code, api.Instr{Op: -1})
		overwrite(x.Entry, -1)
		if !slices.Equal(third, want) {
			t.Errorf("P15.1: %s: an answer is changed with what was handed in", brief(p))
		}
	}
	if asked < 200 {
		t.Errorf("only %d were asked", asked)
	}
}

// P15.1: each call looks at what it is handed now.
func TestLooksAgain(t *testing.T) {
	p := written(false, "struct; uint 0 1; uint 1 1; ret | 0")
	shapeIs(t, p, 0, 2, 3, 4)
	p.Code[2].A = 2
	faultIs(t, p, bad(3))
	p.Code[1].A = 1
	faultIs(t, p, bad(3))
	p.Code[2].A = 0
	shapeIs(t, p, 0, 2, 3, 4)
	p.Code[2] = api.Instr{Op: 19, B: 2}
	faultIs(t, p, bad(2))
	p.Code[2].B = 4
	faultIs(t, p, api.Fault{Err: api.ErrOp, At: 2})
	p.Code[2].B = 3
	p.Code[1].A = 0
	shapeIs(t, p, 0, 2, 3, 3)
	p.Entry[0] = 3
	faultIs(t, p, bad(3))
	p.Entry = p.Entry[:0]
	shapeIs(t, p, -1, -1, -1, -1)
	p.Code = nil
	shapeIs(t, p)
}

// P15.1: with a fault Shape answers nothing at all, whatever was answered ahead.
func TestNothingBesideFault(t *testing.T) {
	for _, p := range []api.Program{everything(false), everything(true)} {
		for at := range p.Code {
			faultIs(t, p, ok)
			turned(&p.Code[at].Op, []int{0, 21, -1}, func() { faultIs(t, p, api.Fault{Err: api.ErrOp, At: formAt(p, at)}) })
		}
		for at := range p.Entry {
			turned(&p.Entry[at], []int{-1, len(p.Code)}, func() { faultIs(t, p, api.Fault{Err: api.ErrPlace, At: at}) })
		}
	}
}

// formAt: where the form is missed, if one instruction is none: an arm is first missed by its union.
func formAt(p api.Program, at int) int {
	for k := range at {
		if i := p.Code[k]; (i.Op == 8 || i.Op == 41) && at <= k+i.A {
			return k
		}
	}
	return at
}
