package code_test

import (
	"math"
	"slices"
	"testing"

	"mortise/api"
)

// small: the chapter's D, the decoder of the one type u16.
func small() api.Program {
	return api.Program{Code: []api.Instr{{Op: 1, A: -1, B: 2}, {Op: 20}}, Entry: []int{0}}
}

// smallWith: D with something changed.
func smallWith(change func(p *api.Program)) api.Program {
	p := small()
	change(&p)
	return p
}

// op: ErrOp at an instruction.
func op(at int) api.Fault { return api.Fault{Err: api.ErrOp, At: at} }

// P14.2: the rows of the chapter's first table.
func TestCheckExamples(t *testing.T) {
	faultIs(t, api.Program{}, api.Fault{})
	faultIs(t, small(), api.Fault{})
	faultIs(t, smallWith(func(p *api.Program) { p.Code[0].B = 3 }), op(0))
	faultIs(t, smallWith(func(p *api.Program) { p.Code[0].A = 64 }), op(0))
	faultIs(t, smallWith(func(p *api.Program) { p.Code[0].C = 1 }), op(0))
	faultIs(t, smallWith(func(p *api.Program) { p.Entry[0] = 2 }), api.Fault{Err: api.ErrPlace})
	faultIs(t, smallWith(func(p *api.Program) { p.Encodes = true }), op(0))
}

// P14.2: programs without instructions or types, of either machine.
func TestCheckOfNone(t *testing.T) {
	for _, encodes := range []bool{false, true} {
		faultIs(t, api.Program{Encodes: encodes}, api.Fault{})
		faultIs(t, api.Program{Encodes: encodes, Code: []api.Instr{}, Entry: []int{}}, api.Fault{})
		faultIs(t, api.Program{Encodes: encodes, Code: []api.Instr{{Op: 20}}}, api.Fault{})
		faultIs(t, api.Program{Encodes: encodes, Entry: []int{0}}, api.Fault{Err: api.ErrPlace})
		faultIs(t, api.Program{Encodes: encodes, Code: []api.Instr{{}}}, op(0))
	}
}

// set: one operand's numbers at its least and greatest, and those that it may not be, below and above. The others are such that they don't matter.
type set struct {
	encodes  bool
	i        api.Instr
	nth      int
	may, not []int
}

// The bounds of the chapter's third table, each written out once.
var (
	kidMay, kidNot       = []int{-1, 0, 1, 62, 63}, []int{math.MinInt, -65, -2, 64, 65, 256, math.MaxInt}
	widthMay, widthNot   = []int{1, 2, 4, 8}, []int{math.MinInt, -8, -4, -1, 0, 3, 5, 6, 7, 9, 10, 12, 16, 32, math.MaxInt}
	mostMay, mostNot     = []int{1, 2, 63, 64, 65, 1<<20 - 1, 1 << 20}, []int{math.MinInt, -1, 0, 1<<20 + 1, 1 << 24, math.MaxInt}
	targetMay, targetNot = []int{0, 1, 98, 99}, []int{math.MinInt, -1, 100, 101, 1 << 20, math.MaxInt}
	typeMay, typeNot     = []int{0, 1, 5, 6}, []int{math.MinInt, -1, 7, 8, 99, math.MaxInt}
	place1May, place1Not = []int{-1, 0, 1, 63, 1<<24 - 2, 1<<24 - 1}, []int{math.MinInt, -3, -2, 1 << 24, 1<<24 + 1, math.MaxInt}
)

// sets: every operand of every instruction, of programs of 100 instructions and 7 types.
func sets() []set {
	return []set{
		{false, api.Instr{Op: 1, B: 1}, 0, kidMay, kidNot},
		{false, api.Instr{Op: 1}, 1, widthMay, widthNot},
		{false, api.Instr{Op: 2, B: 2, C: 1}, 0, []int{0, 1, 61, 62}, []int{math.MinInt, -2, -1, 63, 64, 65, math.MaxInt - 1, math.MaxInt}},
		{false, api.Instr{Op: 2, C: 1}, 1, []int{2, 3, 63, 64}, []int{math.MinInt, -1, 0, 1, 65, 66, math.MaxInt}},
		{false, api.Instr{Op: 2, B: 2}, 2, widthMay, widthNot},
		{false, api.Instr{Op: 3}, 0, kidMay, kidNot},
		{false, api.Instr{Op: 4}, 0, kidMay, kidNot},
		{false, api.Instr{Op: 7}, 1, targetMay, targetNot},
		{false, api.Instr{Op: 8}, 0, []int{1, 2, 63, 64}, []int{math.MinInt, -1, 0, 65, 66, 99, math.MaxInt}},
		{false, api.Instr{Op: 9}, 0, []int{0, 1, 254, 255}, []int{math.MinInt, -256, -1, 256, 257, math.MaxInt}},
		{false, api.Instr{Op: 9}, 1, targetMay, targetNot},
		{false, api.Instr{Op: 10}, 0, []int{4, 5, 6, 7, 8, 1<<24 - 1, 1 << 24}, []int{math.MinInt, -4, -1, 0, 1, 2, 3, 1<<24 + 1, math.MaxInt}},
		{false, api.Instr{Op: 11}, 0, mostMay, mostNot},
		{false, api.Instr{Op: 11, A: 1}, 1, targetMay, targetNot},
		{false, api.Instr{Op: 12}, 1, targetMay, targetNot},
		{false, api.Instr{Op: 13}, 0, mostMay, mostNot},
		{false, api.Instr{Op: 13, A: 1}, 1, targetMay, targetNot},
		{false, api.Instr{Op: 14}, 0, mostMay, mostNot},
		{false, api.Instr{Op: 14, A: 1}, 1, targetMay, targetNot},
		{false, api.Instr{Op: 15}, 1, targetMay, targetNot},
		{false, api.Instr{Op: 16}, 0, kidMay, kidNot},
		{false, api.Instr{Op: 16}, 2, typeMay, typeNot},
		{false, api.Instr{Op: 17}, 0, []int{0, 1, 62, 63}, append([]int{-1}, kidNot...)},
		{false, api.Instr{Op: 17}, 1, []int{0, 1, 62, 63}, append([]int{-1}, kidNot...)},
		{false, api.Instr{Op: 17, A: -1, B: -1}, 0, []int{-1}, append([]int{0, 1, 62, 63}, kidNot...)},
		{false, api.Instr{Op: 17, A: -1, B: -1}, 1, []int{-1}, append([]int{0, 1, 62, 63}, kidNot...)},
		{false, api.Instr{Op: 17}, 2, typeMay, typeNot},
		{false, api.Instr{Op: 17, A: -1, B: -1}, 2, typeMay, typeNot},
		{false, api.Instr{Op: 18}, 0, kidMay, kidNot},
		{false, api.Instr{Op: 19}, 1, targetMay, targetNot},
		{true, api.Instr{Op: 9}, 0, []int{0, 1, 254, 255}, []int{math.MinInt, -256, -1, 256, 257, math.MaxInt}},
		{true, api.Instr{Op: 9}, 1, targetMay, targetNot},
		{true, api.Instr{Op: 19}, 1, targetMay, targetNot},
		{true, api.Instr{Op: 33, B: 1}, 0, place1May, place1Not},
		{true, api.Instr{Op: 33}, 1, widthMay, widthNot},
		{true, api.Instr{Op: 34, B: 2, C: 1}, 0, []int{0, 1, 64, 1<<24 - 3, 1<<24 - 2}, []int{math.MinInt, -2, -1, 1<<24 - 1, 1 << 24, math.MaxInt - 1, math.MaxInt}},
		{true, api.Instr{Op: 34, C: 1}, 1, []int{2, 3, 63, 64}, []int{math.MinInt, -1, 0, 1, 65, 66, 1 << 24, math.MaxInt}},
		{true, api.Instr{Op: 34, B: 2}, 2, widthMay, widthNot},
		{true, api.Instr{Op: 35}, 0, place1May, place1Not},
		{true, api.Instr{Op: 37}, 0, mostMay, mostNot},
		{true, api.Instr{Op: 38}, 0, mostMay, mostNot},
		{true, api.Instr{Op: 39}, 0, []int{1, 2, 63, 64}, []int{math.MinInt, -1, 0, 65, 66, 1 << 20, math.MaxInt}},
		{true, api.Instr{Op: 40}, 1, targetMay, targetNot},
		{true, api.Instr{Op: 41}, 0, []int{1, 2, 63, 64}, []int{math.MinInt, -1, 0, 65, 66, 99, math.MaxInt}},
		{true, api.Instr{Op: 42}, 0, []int{-1, 1, 2, 1<<24 - 1, 1 << 24}, []int{math.MinInt, -3, -2, 0, 1<<24 + 1, math.MaxInt}},
		{true, api.Instr{Op: 43}, 0, place1May, place1Not},
		{true, api.Instr{Op: 44}, 0, place1May[1:], append([]int{-1}, place1Not...)},
		{true, api.Instr{Op: 44}, 2, typeMay, typeNot},
		{true, api.Instr{Op: 45}, 0, []int{1, 2, 1<<24 - 1, 1 << 24}, []int{math.MinInt, -1, 0, 1<<24 + 1, math.MaxInt}},
		{true, api.Instr{Op: 45, A: 1}, 2, typeMay, typeNot},
		{true, api.Instr{Op: 46}, 2, typeMay, typeNot},
		{true, api.Instr{Op: 47}, 1, targetMay, targetNot},
	}
}

// around: a program of 100 instructions and 7 types that begins with this one, arms of other tags behind it, a ret last.
func around(encodes bool, i api.Instr) api.Program {
	p := api.Program{Encodes: encodes, Entry: make([]int, 7), Code: make([]api.Instr, 100)}
	for k := range p.Code {
		p.Code[k] = api.Instr{Op: 9, A: k}
	}
	p.Code[0], p.Code[99] = i, api.Instr{Op: 20}
	return p
}

// P14.2: each operand at its least and greatest, one below and one above, and far off.
func TestCheckOperands(t *testing.T) {
	asked := map[[3]int]int{}
	for _, s := range sets() {
		at := 0
		if s.encodes {
			at = 1
		}
		asked[[3]int{at, s.i.Op, s.nth}]++
		for _, n := range s.may {
			*operand(&s.i, s.nth) = n
			faultIs(t, around(s.encodes, s.i), api.Fault{})
		}
		for _, n := range s.not {
			*operand(&s.i, s.nth) = n
			faultIs(t, around(s.encodes, s.i), op(0))
		}
	}
	for at, encodes := range []bool{false, true} {
		for _, r := range machineRows(encodes) {
			for k, word := range r.words {
				if (asked[[3]int{at, r.op, k}] > 0) != (word != "-") {
					t.Errorf("the operand %d of %s is not asked", k, r.name)
				}
			}
		}
	}
}

// firstOf: an instruction whose operands are such that it has its form around them.
func firstOf(r row) api.Instr {
	i := api.Instr{Op: r.op}
	for k, word := range r.words {
		*operand(&i, k) = max(0, spans(word, 100, 7)[0][0])
	}
	if r.name == "room" {
		i.A = -1
	}
	return i
}

// P14.2: an operand that the table doesn't name is 0, in every instruction.
func TestCheckUnnamed(t *testing.T) {
	for _, encodes := range []bool{false, true} {
		for _, r := range machineRows(encodes) {
			i := firstOf(r)
			faultIs(t, around(encodes, i), api.Fault{})
			for k, word := range r.words {
				if word != "-" {
					continue
				}
				for _, n := range []int{math.MinInt, -2, -1, 1, 2, 8, 64, 1 << 32, math.MaxInt} {
					was := *operand(&i, k)
					*operand(&i, k) = n
					faultIs(t, around(encodes, i), op(0))
					*operand(&i, k) = was
				}
			}
		}
	}
}

// P14.2: an instruction's number that is none of its machine's, the other one's among them.
func TestCheckNumbers(t *testing.T) {
	its := map[bool][]int{
		false: {1, 2, 3, 4, 5, 6, 7, 8, 9, 10, 11, 12, 13, 14, 15, 16, 17, 18, 19, 20},
		true:  {9, 19, 20, 33, 34, 35, 36, 37, 38, 39, 40, 41, 42, 43, 44, 45, 46, 47},
	}
	numbers := strangeNumbers()
	for n := -300; n <= 300; n++ {
		numbers = append(numbers, n)
	}
	for _, encodes := range []bool{false, true} {
		for _, n := range numbers {
			i := api.Instr{Op: n}
			for _, r := range rows() {
				if r.op == n {
					i = firstOf(r)
				}
			}
			want := op(0)
			if slices.Contains(its[encodes], n) {
				want = api.Fault{}
			}
			faultIs(t, around(encodes, i), want)
			if want.Err != api.OK {
				faultIs(t, around(encodes, api.Instr{Op: n}), want)
			}
		}
	}
}

// unions: a union and a choice with these arms behind, as many as there are or another number, in programs that end there.
func unions(look func(p api.Program), many int, arms ...api.Instr) {
	look(api.Program{Code: append([]api.Instr{{Op: 8, A: many}}, arms...)})
	look(api.Program{Encodes: true, Code: append([]api.Instr{{Op: 41, A: many}}, arms...)})
}

// tagged: arms of these tags.
func tagged(tags ...int) (out []api.Instr) {
	for _, tag := range tags {
		out = append(out, api.Instr{Op: 9, A: tag})
	}
	return out
}

// P14.2: arms that are too few, that stand past the end, that have another number, or one A twice.
func TestCheckArms(t *testing.T) {
	is := func(want api.Fault) func(p api.Program) {
		return func(p api.Program) { t.Helper(); faultIs(t, p, want) }
	}
	unions(is(api.Fault{}), 1, tagged(0)...)
	unions(is(api.Fault{}), 2, tagged(3, 200)...)
	unions(is(api.Fault{}), 2, tagged(255, 0)...)
	unions(is(api.Fault{}), 1, tagged(3, 3)...)
	unions(is(api.Fault{}), 2, tagged(3, 4, 3, 4)...)
	unions(is(op(0)), 0)
	unions(is(op(0)), 1)
	unions(is(op(0)), 0, tagged(1)...)
	unions(is(op(0)), -1, tagged(1)...)
	unions(is(op(0)), 2, tagged(1)...)
	unions(is(op(0)), 3, tagged(1, 2)...)
	unions(is(op(0)), 2, tagged(3, 3)...)
	unions(is(op(0)), 3, tagged(3, 4, 3)...)
	unions(is(op(0)), 3, tagged(4, 3, 3)...)
	unions(is(op(0)), 1, api.Instr{Op: 20})
	unions(is(op(0)), 2, append(tagged(1), api.Instr{Op: 20}, api.Instr{Op: 9, A: 2})...)
	unions(is(op(0)), 2, append(tagged(1), api.Instr{Op: 0, A: 2})...)
	unions(is(op(0)), 2, append(tagged(1), api.Instr{Op: 19, B: 2})...)
	unions(is(op(0)), math.MaxInt, tagged(1, 2, 3)...)
	unions(is(op(0)), math.MinInt, tagged(1, 2, 3)...)
}

// P14.2: of an arm's own form nothing is asked at the union, but where it stands.
func TestCheckArmsForm(t *testing.T) {
	is := func(want api.Fault) func(p api.Program) {
		return func(p api.Program) { t.Helper(); faultIs(t, p, want) }
	}
	unions(is(op(1)), 1, tagged(256)...)
	unions(is(op(2)), 2, tagged(0, -1)...)
	unions(is(op(0)), 2, tagged(256, 256)...)
	unions(is(op(0)), 2, tagged(math.MinInt, math.MinInt)...)
	unions(is(op(1)), 2, tagged(math.MaxInt, math.MinInt)...)
	unions(is(op(1)), 2, tagged(256, 0)...)
	unions(is(op(1)), 1, api.Instr{Op: 9, B: 2})
	unions(is(op(1)), 1, api.Instr{Op: 9, B: -1})
	unions(is(op(1)), 1, api.Instr{Op: 9, C: 1})
	unions(is(op(0)), 2, api.Instr{Op: 9, A: 5, B: 1}, api.Instr{Op: 9, A: 5, B: 2})
	unions(is(op(0)), 2, api.Instr{Op: 9, A: 5}, api.Instr{Op: 9, A: 5, C: 1})
}

// P14.2: the most arms, with one tag twice at every two places, and with the last one missing.
func TestCheckMostArms(t *testing.T) {
	tags := make([]int, 64)
	for k := range tags {
		tags[k] = 255 - k
	}
	is := func(want api.Fault) func(p api.Program) {
		return func(p api.Program) { t.Helper(); faultIs(t, p, want) }
	}
	unions(is(api.Fault{}), 64, tagged(tags...)...)
	unions(is(op(0)), 64, tagged(tags[:63]...)...)
	unions(is(op(0)), 65, tagged(append(tags, 0)...)...)
	for k := range tags {
		for j := range k {
			turned(&tags[k], []int{tags[j]}, func() { unions(is(op(0)), 64, tagged(tags...)...) })
		}
	}
}

// P14.2: uints whose A and B together are at MaxFields and above, and numbers whose A and B times C together are at MaxSize and above.
func TestCheckTogether(t *testing.T) {
	for _, c := range []int{1, 2, 4, 8} {
		for b := 2; b <= 64; b++ {
			faultIs(t, around(false, api.Instr{Op: 2, A: 64 - b, B: b, C: c}), api.Fault{})
			faultIs(t, around(false, api.Instr{Op: 2, A: 65 - b, B: b, C: c}), op(0))
			faultIs(t, around(true, api.Instr{Op: 34, A: 1<<24 - b*c, B: b, C: c}), api.Fault{})
			faultIs(t, around(true, api.Instr{Op: 34, A: 1<<24 - b*c + 1, B: b, C: c}), op(0))
		}
	}
	for _, i := range []api.Instr{{Op: 2, A: math.MaxInt, B: math.MaxInt, C: 1}, {Op: 2, A: math.MinInt, B: math.MaxInt, C: 1}, {Op: 2, A: math.MaxInt - 1, B: 2, C: 1}, {Op: 2, A: 2, B: math.MinInt, C: 1}} {
		faultIs(t, around(false, i), op(0))
	}
	for _, i := range []api.Instr{{Op: 34, A: math.MaxInt, B: 2, C: 1}, {Op: 34, B: 1 << 61, C: 8}, {Op: 34, A: 1, B: 1 << 62, C: 4}, {Op: 34, A: 1 << 24, B: -1, C: 1}, {Op: 34, A: 3, B: 2, C: math.MaxInt}} {
		faultIs(t, around(true, i), op(0))
	}
}

// P14.2: targets and types count by the program: of 1 instruction and type, and of more.
func TestCheckTargetsAndTypes(t *testing.T) {
	for n := 1; n < 20; n++ {
		for at := range n {
			p := api.Program{Entry: make([]int, n), Code: slices.Repeat([]api.Instr{{Op: 20}}, n)}
			look := func(want api.Fault) { t.Helper(); faultIs(t, p, want) }
			for _, k := range append(strangeNumbers(), n-1, n, n+1) {
				p.Code[at] = api.Instr{Op: 19, B: k}
				want, wantEntry := api.Fault{}, api.Fault{}
				if k < 0 || k >= n {
					want, wantEntry = op(at), api.Fault{Err: api.ErrPlace, At: at}
				}
				look(want)
				p.Code[at] = api.Instr{Op: 16, C: k}
				look(want)
				p.Code[at] = api.Instr{Op: 20}
				turned(&p.Entry[at], []int{k}, func() { look(wantEntry) })
			}
		}
	}
	p := api.Program{Code: []api.Instr{{Op: 16}, {Op: 20}}}
	faultIs(t, p, op(0))
	p.Entry = []int{1}
	faultIs(t, p, api.Fault{})
}

// P14.2: of several faults the first instruction's, and ahead of every type's.
func TestCheckOrder(t *testing.T) {
	for first := range 5 {
		for second := range 5 {
			p := api.Program{Entry: []int{0, 1, 2, 3, 4}, Code: slices.Repeat([]api.Instr{{Op: 19}}, 5)}
			p.Entry[first], p.Entry[second] = 5, -1
			faultIs(t, p, api.Fault{Err: api.ErrPlace, At: min(first, second)})
			p.Code[first].A, p.Code[second].Op = 1, 33
			faultIs(t, p, op(min(first, second)))
		}
	}
}

// P14.2: programs of MaxCode instructions and types, and of one more; ErrLong comes ahead of all else.
func TestCheckLongest(t *testing.T) {
	most := make([]api.Instr, api.MaxCode+1)
	for k := range most {
		most[k] = api.Instr{Op: 19, B: api.MaxCode - 1}
	}
	entries := make([]int, api.MaxCode+1)
	long := api.Fault{Err: api.ErrLong}
	for _, encodes := range []bool{false, true} {
		is := func(instrs []api.Instr, entry []int, want api.Fault) {
			t.Helper()
			faultIs(t, api.Program{Encodes: encodes, Code: instrs, Entry: entry}, want)
		}
		is(most[:api.MaxCode], entries[:api.MaxCode], api.Fault{})
		is(most, nil, long)
		is(most, entries[:api.MaxCode], long)
		is(most[:api.MaxCode], entries, long)
		is(nil, entries, long)
		is(nil, entries[:api.MaxCode], api.Fault{Err: api.ErrPlace})
		turned(&most[0], []api.Instr{{Op: -1}}, func() {
			is(most, nil, long)
			is(most[:api.MaxCode], entries, long)
			is(most[:api.MaxCode], entries[:api.MaxCode], op(0))
		})
		turned(&most[api.MaxCode-1], []api.Instr{{Op: 19, B: api.MaxCode}}, func() {
			is(most[:api.MaxCode], entries[:api.MaxCode], op(api.MaxCode-1))
		})
		turned(&entries[api.MaxCode-1], []int{api.MaxCode}, func() {
			is(most[:api.MaxCode], entries[:api.MaxCode], api.Fault{Err: api.ErrPlace, At: api.MaxCode - 1})
		})
	}
}

// P14.2: programs that look like chance, and with one field changed.
func TestCheckChance(t *testing.T) {
	d := dice(1)
	for n := range 400 {
		p := chance(&d, n%2 == 0, 1+d.below(60), d.below(6))
		if !programAll(t, p) {
			t.Errorf("%s has not its form", brief(p))
		}
		for range 20 {
			i := &p.Code[d.below(len(p.Code))]
			field := []*int{&i.Op, &i.A, &i.B, &i.C}[d.below(4)]
			turned(field, []int{strangeNumbers()[d.below(len(strangeNumbers()))], *field + 1, *field - 1}, func() { programAll(t, p) })
		}
	}
}
