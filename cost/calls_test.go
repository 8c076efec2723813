package cost_test

import (
	"math"
	"slices"
	"sync"
	"testing"

	"mortise/api"
	"mortise/code"
	"mortise/cost"
	"mortise/sound"
)

// strangeNumbers: those at which something begins or ends, and those at which sums wrap.
func strangeNumbers() []int {
	return []int{math.MinInt, math.MinInt + 1, -1 << 32, -1 << 31, -2, -1, 0, 1, 2, 3, 8, 62, 63, 64, 65, 1 << 20, 1<<20 + 1, 1<<24 - 1, 1 << 24, 1<<31 - 1, 1 << 31, 1 << 32, 1 << 62, math.MaxInt - 1, math.MaxInt}
}

// with: looks while a field is, one after the other, each of these, and puts back what it was.
func with[T any](field *T, to []T, look func()) {
	was := *field
	for _, x := range to {
		*field = x
		look()
	}
	*field = was
}

// whole: a program that is taken and has every one of the decoder's instructions, in routines as chapter 16 lays them.
func whole() api.Program {
	return written(false, "bool -1; ret; l: seq; first 9 r; jump s; a: offset 4; s: slots a; jump p; b: part -1 -1 0; tail -1; p: parts b; r: ret; m: seq; i: item 9 q; call -1 0; jump i; q: ret; v: seq; c: varint -1; less 3 c; ret; o: option e; call 0 1; e: ret; u: union 2; arm 0 x; arm 9 y; x: bool 0; jump z; y: uint 0 8; z: ret; t: struct; uint 0 1; uints 1 2 4; offset 9; offset 9; call 5 0; part 3 0 1; tail 0; part 4 1 2; tail 1; ret | 0 l m v o u t")
}

// everything: the same with jumps that lead to jumps, rings that nothing comes to, types that lead into the routines of others, and one that calls such a type.
func everything() api.Program {
	return written(false, "uint 3 2; uint 4 2; f: bool -1; ret; l: seq; first 9 r; jump s; a: offset 4; s: slots a; jump p; b: part -1 -1 0; tail -1; p: parts h; r: ret; less 3 w; m: seq; i: item 9 q; call -1 0; jump h2; q: ret; v: seq; c: varint -1; less 3 c; ret; o: option e; call 0 1; e: ret; u: union 2; arm 0 x; arm 9 h3; union 1; arm 7 w; x: bool 0; jump z; y: uint 0 8; z: ret; t: struct; uint 0 1; uints 1 2 1; w: uint 3 1; uint 4 1; offset 9; offset 9; call 7 0; part 5 0 1; tail 0; part 6 1 2; tail 1; ret; k: seq; jump i; h: jump b; h2: jump h4; h3: jump y; h4: jump i; n: jump g; g: jump n; d: jump u; jump w; uint 0 8; j: struct; bool 0; call 1 7; bool 2; ret | f l m v o d t k j")
}

// P21.1: the calls end, and don't panic, at programs of which one field, the order or the number of things is another.
func TestAllPrograms(t *testing.T) {
	taken, refused := 0, 0
	for _, p := range []api.Program{written(false, "uint -1 1; ret | 0"), whole(), everything()} {
		if f := modelAll(t, p); f != ok {
			t.Fatalf("the test's program is refused: %s: %v", brief(p), f)
		}
		follows(t, p)
		look := func() {
			if modelAll(t, p) == ok {
				taken++
				follows(t, p)
			} else {
				refused++
			}
		}
		with(&p.Encodes, []bool{!p.Encodes}, look)
		for k := range p.Entry {
			with(&p.Entry[k], append(strangeNumbers(), len(p.Code)-1, len(p.Code)), look)
			with(&p.Entry, [][]int{slices.Delete(slices.Clone(p.Entry), k, k+1), slices.Insert(slices.Clone(p.Entry), k, p.Entry[k])}, look)
		}
		for k := range p.Code {
			i := &p.Code[k]
			for _, field := range []*int{&i.Op, &i.A, &i.B, &i.C} {
				with(field, append(strangeNumbers(), len(p.Code)-1, len(p.Code), len(p.Entry)-1, len(p.Entry), *field-1, *field+1), look)
			}
			for op := range 50 {
				with(&p.Code[k], []api.Instr{{Op: op}, {Op: op, A: 1, B: 1}, {Op: op, A: -1, B: 1}, {Op: op, A: 5, B: 2, C: 2}}, look)
			}
			with(&p.Code, [][]api.Instr{slices.Delete(slices.Clone(p.Code), k, k+1), slices.Insert(slices.Clone(p.Code), k, p.Code[k]), p.Code[:k], p.Code[k:]}, look)
			for j := range k {
				l := slices.Clone(p.Code)
				l[j], l[k] = l[k], l[j]
				with(&p.Code, [][]api.Instr{l}, look)
			}
		}
		for at := range p.Code {
			if targeted(p.Code[at].Op) {
				for to := range p.Code {
					with(&p.Code[at].B, []int{to}, look)
				}
			}
		}
	}
	if taken < 500 || refused < 5000 {
		t.Errorf("only %d were taken, %d refused", taken, refused)
	}
}

// P21.1: all programs of one instruction whose numbers lie at the edges, alone, ahead of a ret, and behind a routine twice.
func TestAllInstructions(t *testing.T) {
	numbers := []int{math.MinInt, -2, -1, 0, 1, 2, 8, 63, 64, 1 << 20, 1 << 24, math.MaxInt}
	for op := -1; op < 50; op++ {
		for _, a := range numbers {
			for _, b := range numbers {
				for _, c := range []int{-1, 0, 1, 8} {
					i := api.Instr{Op: op, A: a, B: b, C: c}
					for _, encodes := range []bool{false, true} {
						modelAll(t, api.Program{Encodes: encodes, Code: []api.Instr{i}, Entry: []int{0}})
						modelAll(t, api.Program{Encodes: encodes, Code: []api.Instr{i, {Op: 20}}, Entry: []int{0, 0}})
						modelAll(t, api.Program{Encodes: encodes, Code: []api.Instr{{Op: 3, A: -1}, {Op: 20}, i, i}, Entry: []int{0}})
					}
				}
			}
		}
	}
}

// behindHead: an alphabet for programs of n instructions behind a type 0 of two, of which some have targets, to each of the n.
func behindHead(n int) (out []api.Instr) {
	out = []api.Instr{{Op: 20}, {Op: 3, A: -1}, {Op: 5}, {Op: 16, A: -1}, {Op: 16}}
	for _, i := range []api.Instr{{Op: 13, A: 9}, {Op: 7}, {Op: 11, A: 9}, {Op: 19}} {
		for k := range n {
			i.B = 2 + k
			out = append(out, i)
		}
	}
	return out
}

// fields: another one: a struct with parts and calls.
func fields(int) []api.Instr {
	return []api.Instr{{Op: 20}, {Op: 6}, {Op: 1, A: 0, B: 1}, {Op: 16, A: 1}, {Op: 10, A: 4}, {Op: 17, A: 0}, {Op: 17, A: 1, B: 1}, {Op: 18}}
}

// P21.2 to P21.4, P21.6: all programs of a few instructions from a few, behind a type that has a way without bytes, and behind one that has none.
func TestAllShortPrograms(t *testing.T) {
	taken := 0
	each := func(few []api.Instr, n int) {
		for _, head := range []string{"seq; ret", "bool -1; ret"} {
			p := written(false, head)
			p.Code = append(p.Code, make([]api.Instr, n)...)
			var fillFrom func(at int)
			fillFrom = func(at int) {
				if at < n {
					for _, i := range few {
						p.Code[2+at] = i
						fillFrom(at + 1)
					}
					return
				}
				for _, p.Entry = range [][]int{{0, 2}, {0, 1 + n, 2}} {
					if modelAll(t, p) == ok {
						taken++
						follows(t, p)
					}
				}
			}
			fillFrom(0)
		}
	}
	for n := 1; n <= 4; n++ {
		each(behindHead(n), n)
	}
	for n := 1; n <= 6; n++ {
		each(fields(n), n)
	}
	if taken < 1000 {
		t.Errorf("only %d were taken", taken)
	}
}

// roomy: a copy with spare room in its lists, and something in it that would be an instruction, an arm or an entry more.
func roomy(p api.Program) api.Program {
	p.Code = append(slices.Clip(slices.Clone(p.Code)), api.Instr{Op: 20}, api.Instr{Op: 9, A: 77}, api.Instr{Op: -1})[:len(p.Code)]
	p.Entry = append(slices.Clip(slices.Clone(p.Entry)), 0, -1, math.MaxInt)[:len(p.Entry)]
	return p
}

// held: all that a program's lists hold, spare room too.
func held(p api.Program) api.Program {
	return api.Program{Code: slices.Clone(p.Code[:cap(p.Code)]), Entry: slices.Clone(p.Entry[:cap(p.Entry)])}
}

// somePrograms: such as are taken, and such as are not.
func somePrograms(d *dice) []api.Program {
	out := []api.Program{{}, {Encodes: true}, {Code: []api.Instr{}, Entry: []int{}}, whole(), everything(), {Entry: []int{0}}, written(false, "uint -1 1 | 0"), written(false, "bool -1; ret"), written(true, "leb; ret | 0"), written(true, "many 9; a: jump a | 0")}
	for n := range 150 {
		p := d.laidOut(1 + d.below(4))
		out = append(out, p, d.change(p), d.program(n%2 == 0, 1+d.below(9), d.below(3)))
	}
	return out
}

// P21.1: a program that is handed in is not changed, spare room too, and spare room is not looked at.
func TestChangesNothing(t *testing.T) {
	d := dice(21)
	for _, p := range somePrograms(&d) {
		x := roomy(p)
		before := held(x)
		if modelAll(t, x) != modelAll(t, p) {
			t.Errorf("P21.1: %s: spare room is looked at", brief(p))
		}
		if !code.Equal(before, held(x)) {
			t.Errorf("P21.1: %s: what is handed in is changed", brief(p))
		}
	}
}

// overwrite writes over a list, spare room too.
func overwrite[T any](l []T, x T) {
	l = l[:cap(l)]
	for k := range l {
		l[k] = x
	}
}

// P21.1: what is answered is new memory, spare room too, and is not kept, nor is what was handed in.
func TestNewMemory(t *testing.T) {
	d := dice(22)
	asked := 0
	call := func(p api.Program) []int { l, _ := cost.Straight(p); return l }
	for _, p := range somePrograms(&d) {
		if modelAll(t, p) != ok {
			continue
		}
		asked++
		x := roomy(p)
		before := held(x)
		want := slices.Clone(call(x))
		first, second := call(x), call(x)
		overwrite(first, -7)
		if !slices.Equal(second, want) {
			t.Errorf("P21.1: Straight of %s: two answers share memory", brief(p))
		}
		overwrite(second, -8)
		if slices.Contains(first[:cap(first)], -8) {
			t.Errorf("P21.1: Straight of %s: two answers share spare room", brief(p))
		}
		if !code.Equal(before, held(x)) {
			t.Errorf("P21.1: Straight of %s: an answer shares memory with what was handed in", brief(p))
		}
		third, c := call(x), costNow(t, x)
		overwrite(x.Code, api.Instr{Op: -1})
		overwrite(x.Entry, -1)
		if !slices.Equal(third, want) {
			t.Errorf("P21.1: Straight of %s: the answer is changed with what was handed in", brief(p))
		}
		straightIs(t, p, want)
		costIs(t, p, c)
	}
	if asked < 150 {
		t.Errorf("only %d were asked", asked)
	}
}

// P21.1: each call looks at what it is handed now.
func TestLooksAgain(t *testing.T) {
	p := written(false, "seq; ret; struct; offset 4; part 0 0 0; tail 0; ret; jump 5 | 0 2")
	look := func(straight, c string) {
		t.Helper()
		straightIs(t, p, numbersOf(straight))
		costIs(t, p, costOf(c))
	}
	look("2 1 2 1 5 2 1 0", "15 3 2")
	p.Code[0] = api.Instr{Op: 3, A: -1}
	look("1 1 2 1 2 2 1 0", "6 3 2")
	p.Entry = p.Entry[:1]
	look("1 1 0 0 0 0 0 0", "2 2 1")
	p.Entry = append(p.Entry, 2)
	p.Code[4] = api.Instr{Op: 19, B: 7}
	faultIs(t, p, bad(5))
	p.Code[3] = api.Instr{Op: 3}
	p.Code[7].B = 6
	look("1 1 2 1 3 0 1 2", "6 4 1")
	p.Code[3] = api.Instr{Op: 16}
	look("1 1 3 2 3 0 1 2", "9 6 2")
	p.Code = p.Code[:6]
	faultIs(t, p, api.Fault{Err: api.ErrOp, At: 4})
	p.Code, p.Entry = p.Code[:2], nil
	look("0 0", "0 0 0")
	p.Code = nil
	look("", "0 0 0")
	p.Encodes = true
	faultIs(t, p, bad(0))
}

// P21.1: what a call answers hangs on its arguments alone: not on others at the same time.
func TestSameEachTime(t *testing.T) {
	d := dice(23)
	some := somePrograms(&d)
	var wait sync.WaitGroup
	wrong := make([]int, 8)
	for n := range wrong {
		wait.Go(func() {
			for k := range some {
				p := some[(k*(2*n+1)+n)%len(some)]
				l, f := cost.Straight(p)
				c, g := cost.Of(p)
				if f != g {
					wrong[n]++
				}
				if f == ok && sound.Verify(p) == ok {
					if w := wordsOf(p); c != w.cost() || !slices.Equal(l, w.s[inSteps]) {
						wrong[n]++
					}
				}
			}
		})
	}
	wait.Wait()
	if slices.Max(wrong) > 0 {
		t.Errorf("P21.1: other answers at the same time: %v", wrong)
	}
}
