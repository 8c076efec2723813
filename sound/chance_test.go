package sound_test

import (
	"slices"
	"testing"

	"mortise/api"
	"mortise/code"
)

// dice: numbers that look like chance, always the same ones.
type dice uint64

func (d *dice) below(n int) int {
	*d = *d*6364136223846793005 + 1442695040888963407
	return int(uint64(*d)>>33) % n
}

func (d *dice) oneOf(l ...int) int { return l[d.below(len(l))] }

// pick: a number for an operand of that word, small ones most often, edges sometimes.
func (d *dice) pick(word string, code, types int) int {
	switch word {
	case "kid", "part":
		return d.oneOf(-1, -1, 0, 0, 0, 1, 1, 2, 3, 63)
	case "kid0":
		return d.oneOf(0, 0, 1, 1, 2)
	case "width":
		return d.oneOf(1, 2, 4, 8)
	case "run":
		return d.oneOf(2, 2, 3)
	case "first":
		return d.oneOf(4, 8, 4194304, 4194305, 16777216)
	case "most":
		return d.oneOf(1, 2, 9, 1048576)
	case "count":
		return d.oneOf(1, 1, 2, 2, 3, 64)
	case "arms":
		return d.oneOf(1, 2, 3)
	case "tag":
		return d.below(256)
	case "place":
		return d.below(9)
	case "place1":
		return d.oneOf(-1, 0, 4)
	case "bytes":
		return d.oneOf(-1, 1, 8)
	case "size":
		return d.oneOf(1, 5)
	case "target":
		return d.below(code)
	case "type":
		return d.below(types)
	}
	return 0
}

// instr: one that looks like chance, and has its form (arms aside).
func (d *dice) instr(encodes bool, code, types int) api.Instr {
	for {
		all := machineRows(encodes)
		r := all[d.below(len(all))]
		if r.words[2] == "type" && types == 0 {
			continue
		}
		i := api.Instr{Op: r.op}
		for k, to := range []*int{&i.A, &i.B, &i.C} {
			*to = d.pick(r.words[k], code, types)
		}
		if r.name == "part" && min(i.A, i.B) == -1 {
			i.A, i.B = -1, -1
		}
		return i
	}
}

// mend: gives each union and choice as many arms as stand behind it, with tags that are not alike; one without any becomes a ret.
func mend(p api.Program) {
	for at := range p.Code {
		i := &p.Code[at]
		if i.Op != 8 && i.Op != 41 {
			continue
		}
		many := 0
		for many < i.A && at+1+many < len(p.Code) && p.Code[at+1+many].Op == 9 {
			many++
			p.Code[at+many].A = many
		}
		if i.A = many; many == 0 {
			*i = api.Instr{Op: 20}
		}
	}
}

// program: of n instructions and so many types that looks like chance, and has its form.
func (d *dice) program(encodes bool, n, types int) api.Program {
	p := api.Program{Encodes: encodes}
	for range types {
		p.Entry = append(p.Entry, d.below(n))
	}
	for range n {
		p.Code = append(p.Code, d.instr(encodes, n, types))
	}
	mend(p)
	return p
}

// routine: as chapters 16 and 17 lay one of a type of some kind, with code so long ahead of it; the types that it is made of lie below.
func (d *dice) routine(encodes bool, from, below int) []api.Instr {
	if encodes {
		return d.encoderRoutine(from, below)
	}
	return d.decoderRoutine(from, below)
}

func (d *dice) decoderRoutine(from, below int) []api.Instr {
	ret := api.Instr{Op: 20}
	read := func(k int) api.Instr {
		// The types below may be such as don't pay: where that is refused, a uint is as good.
		if below > 0 && d.below(3) == 0 {
			return api.Instr{Op: 16, A: k, C: d.below(below)}
		}
		return []api.Instr{{Op: 1, A: k, B: 4}, {Op: 3, A: k}, {Op: 4, A: k}}[d.below(3)]
	}
	kind := d.below(8)
	if below == 0 {
		kind = d.oneOf(0, 1, 3, 5, 6)
	}
	t := d.below(max(below, 1))
	switch kind {
	case 0:
		return []api.Instr{read(-1), ret}
	case 1:
		return []api.Instr{{Op: 5}, read(-1), {Op: 14, A: 3, B: from + 1}, ret}
	case 2:
		return []api.Instr{{Op: 5}, {Op: 10, A: 8}, {Op: 12, B: from + 1}, {Op: 19, B: from + 6}, {Op: 17, A: -1, B: -1, C: t}, {Op: 18, A: -1}, {Op: 15, B: from + 4}, ret}
	case 3:
		return []api.Instr{{Op: 5}, {Op: 13, A: 9, B: from + 4}, read(-1), {Op: 19, B: from + 1}, ret}
	case 4:
		return []api.Instr{{Op: 5}, {Op: 11, A: 9, B: from + 9}, {Op: 19, B: from + 4}, {Op: 10, A: 4}, {Op: 12, B: from + 3}, {Op: 19, B: from + 8}, {Op: 17, A: -1, B: -1, C: t}, {Op: 18, A: -1}, {Op: 15, B: from + 6}, ret}
	case 5:
		return []api.Instr{{Op: 7, B: from + 2}, read(0), ret}
	case 6:
		many := 1 + d.below(4)
		out := []api.Instr{{Op: 8, A: many}}
		end := from + 3*many
		for k := range many {
			out = append(out, api.Instr{Op: 9, A: k, B: from + 1 + many + 2*k})
		}
		for range many {
			out = append(out, read(0), api.Instr{Op: 19, B: end})
		}
		out[len(out)-1] = ret
		return out
	}
	return d.structRoutine(read, t)
}

// structRoutine: fields, some of them by an offset; sometimes two or three uints at once.
func (d *dice) structRoutine(read func(k int) api.Instr, t int) []api.Instr {
	out := []api.Instr{{Op: 6}}
	var parts []int
	kids := 1 + d.below(6)
	for k := 0; k < kids; k++ {
		switch {
		case d.below(3) == 0:
			parts = append(parts, k)
			out = append(out, api.Instr{Op: 10, A: 4})
		case k+1 < kids && d.below(3) == 0:
			out = append(out, api.Instr{Op: 2, A: k, B: 2, C: 1})
			k++
		default:
			out = append(out, read(k))
		}
	}
	for j, k := range parts {
		out = append(out, api.Instr{Op: 17, A: k, B: j, C: t}, api.Instr{Op: 18, A: j})
	}
	return append(out, api.Instr{Op: 20})
}

func (d *dice) encoderRoutine(from, below int) []api.Instr {
	ret := api.Instr{Op: 20}
	at := func(place int) api.Instr {
		if below > 0 && d.below(3) == 0 {
			return []api.Instr{{Op: 44, A: place, C: d.below(below)}, {Op: 46, C: d.below(below)}}[d.below(2)]
		}
		return []api.Instr{{Op: 33, A: place, B: 1}, {Op: 35, A: place}, {Op: 36}}[d.below(3)]
	}
	item := func() api.Instr {
		if below > 0 && d.below(2) == 0 {
			return []api.Instr{{Op: 45, A: 5, C: d.below(below)}, {Op: 46, C: d.below(below)}}[d.below(2)]
		}
		return []api.Instr{{Op: 33, A: -1, B: 1}, {Op: 35, A: -1}}[d.below(2)]
	}
	switch d.below(7) {
	case 0:
		return []api.Instr{at(0), ret}
	case 1:
		return []api.Instr{{Op: 37, A: 3}, item(), {Op: 47, B: from + 1}, ret}
	case 2:
		return []api.Instr{{Op: 37, A: 3}, {Op: 42, A: -1}, {Op: 43, A: -1}, item(), {Op: 47, B: from + 2}, ret}
	case 3:
		return []api.Instr{{Op: 38, A: 9}, {Op: 42, A: -1}, {Op: 19, B: from + 5}, {Op: 43, A: -1}, item(), {Op: 47, B: from + 3}, ret}
	case 4:
		return []api.Instr{{Op: 40, B: from + 2}, at(1), ret}
	case 5:
		many := 1 + d.below(4)
		out := []api.Instr{{Op: 41, A: many}}
		for k := range many {
			out = append(out, api.Instr{Op: 9, A: k, B: from + 1 + many + 2*k})
		}
		for range many {
			out = append(out, at(1), ret)
		}
		return out
	}
	kids := 1 + d.below(6)
	out := []api.Instr{{Op: 39, A: kids}, {Op: 42, A: 8}}
	for k := 0; k < kids; k++ {
		if k+1 < kids && d.below(3) == 0 {
			out = append(out, api.Instr{Op: 34, A: k, B: 2, C: 1})
			k++
			continue
		}
		if d.below(3) == 0 {
			out = append(out, api.Instr{Op: 43, A: k})
		}
		out = append(out, at(k))
	}
	return append(out, ret)
}

// laid: so many routines one behind the other, each taken by itself and with those ahead.
func (d *dice) laid(encodes bool, types int) api.Program {
	p := api.Program{Encodes: encodes}
	for range types {
		for {
			q := api.Program{Encodes: encodes, Code: slices.Clone(p.Code), Entry: append(slices.Clone(p.Entry), len(p.Code))}
			q.Code = append(q.Code, d.routine(encodes, len(p.Code), len(p.Entry))...)
			if _, f := modelOf(q); f == ok {
				p = q
				break
			}
		}
	}
	return p
}

// change: another instruction, operand or entry, one left out or laid in, or two that have changed places.
func (d *dice) change(p api.Program) api.Program {
	p.Code, p.Entry = slices.Clone(p.Code), slices.Clone(p.Entry)
	n, at := len(p.Code), d.below(len(p.Code))
	switch d.below(8) {
	case 0:
		if len(p.Entry) > 0 {
			p.Entry[d.below(len(p.Entry))] = at
		}
	case 1, 2:
		p.Code[at] = d.instr(p.Encodes, n, len(p.Entry))
	case 3:
		p.Code[at].B = d.below(n)
	case 4:
		i := &p.Code[at]
		to := []*int{&i.A, &i.B, &i.C}[d.below(3)]
		*to += d.oneOf(-1, 1)
	case 5:
		k := d.below(n)
		p.Code[at], p.Code[k] = p.Code[k], p.Code[at]
	case 6:
		p.Code = slices.Insert(p.Code, at, d.instr(p.Encodes, n, len(p.Entry)))
	case 7:
		if n > 1 {
			p.Code = slices.Delete(p.Code, at, at+1)
		}
	}
	return p
}

// P15.2, P15.3: programs that look like chance; the instruction at fault is thrown again and again, so that ever longer fronts of them can be come to.
func TestChanceMended(t *testing.T) {
	d := dice(1)
	taken, deep := 0, 0
	for n := range 3000 {
		p := d.program(n%2 == 0, 2+d.below(14), 1+d.below(3))
		for range 60 {
			f := modelAll(t, p)
			if f == ok {
				taken++
				p = d.change(p)
				mend(p)
				continue
			}
			at := f.At
			if f.Err != api.ErrCode || d.below(8) == 0 {
				at = d.below(len(p.Code))
			}
			if at > 4 {
				deep++
			}
			p.Code = slices.Clone(p.Code)
			p.Code[at] = d.instr(p.Encodes, len(p.Code), len(p.Entry))
			mend(p)
		}
	}
	if taken < 2000 || deep < 20000 {
		t.Errorf("only %d were taken, and %d at fault behind the first ones", taken, deep)
	}
}

// P15.2, P15.3: routines as a compiler lays them are taken, and with some changes to them answered as the model says.
func TestChanceChanged(t *testing.T) {
	d := dice(2)
	taken, refused := 0, 0
	for n := range 700 {
		p := d.laid(n%2 == 0, 1+d.below(6))
		if f := modelAll(t, p); f != ok {
			t.Fatalf("the test's program is refused: %s", brief(p))
		}
		for range 40 {
			q := p
			for range 1 + d.below(3) {
				q = d.change(q)
			}
			switch f := modelAll(t, q); {
			case f == ok:
				taken++
			case f.Err == api.ErrCode:
				refused++
			}
		}
	}
	if taken < 1000 || refused < 10000 {
		t.Errorf("only %d were taken, %d refused", taken, refused)
	}
}

// fewInstructions: an alphabet for programs of n instructions, all targets among it.
func fewInstructions(encodes bool, n int) (out []api.Instr) {
	targets := func(i api.Instr) {
		for i.B = range n {
			out = append(out, i)
		}
	}
	if encodes {
		out = []api.Instr{{Op: 20}, {Op: 33, B: 1}, {Op: 33, A: -1, B: 1}, {Op: 37, A: 1}, {Op: 38, A: 1}, {Op: 39, A: 2}, {Op: 46}}
		targets(api.Instr{Op: 47})
		targets(api.Instr{Op: 40})
	} else {
		out = []api.Instr{{Op: 20}, {Op: 1, A: -1, B: 1}, {Op: 1, B: 1}, {Op: 5}, {Op: 6}, {Op: 10, A: 4}, {Op: 16}, {Op: 16, A: -1}, {Op: 17}, {Op: 17, A: -1, B: -1}, {Op: 18, A: -1}}
		targets(api.Instr{Op: 7})
		targets(api.Instr{Op: 13, A: 1})
		targets(api.Instr{Op: 15})
	}
	targets(api.Instr{Op: 19})
	return out
}

// P15.2, P15.3: all programs of up to three instructions from a few, as one type and as two.
func TestAllShortPrograms(t *testing.T) {
	taken := 0
	for _, encodes := range []bool{false, true} {
		for n := 1; n <= 3; n++ {
			few := fewInstructions(encodes, n)
			p := api.Program{Encodes: encodes, Code: make([]api.Instr, n)}
			var fillFrom func(at int)
			fillFrom = func(at int) {
				if at < n {
					for _, i := range few {
						p.Code[at] = i
						fillFrom(at + 1)
					}
					return
				}
				for _, p.Entry = range [][]int{{0}, {n - 1, 0}} {
					if modelAll(t, p) == ok {
						taken++
					}
				}
			}
			fillFrom(0)
		}
	}
	if taken < 80 {
		t.Errorf("only %d were taken", taken)
	}
}

// P15.2, P15.3: programs of several hundred instructions, of which many types share routines.
func TestLongPrograms(t *testing.T) {
	d := dice(3)
	for n := range 6 {
		p := d.laid(n%2 == 0, 70)
		for range 30 {
			p.Entry = append(p.Entry, p.Entry[d.below(len(p.Entry))])
		}
		if len(p.Code) < 250 || modelAll(t, p) != ok {
			t.Errorf("%s: %d instructions", brief(p), len(p.Code))
		}
		for range 20 {
			modelAll(t, d.change(p))
		}
	}
}

// The test's own programs have their form, but for those that are changed.
func TestChanceHasForm(t *testing.T) {
	d := dice(4)
	for n := range 3000 {
		if p := d.program(n%2 == 0, 1+d.below(20), d.below(4)); code.Check(p) != ok {
			t.Fatalf("the test's program has not its form: %s: %v", brief(p), code.Check(p))
		}
	}
}
