package prune_test

import (
	"slices"

	"mortise/api"
	"mortise/sound"
)

// dice: numbers that look like chance, always the same ones.
type dice uint64

func (d *dice) below(n int) int {
	*d = *d*6364136223846793005 + 1442695040888963407
	return int(uint64(*d)>>33) % n
}

func (d *dice) oneOf(l ...int) int { return l[d.below(len(l))] }

// pick: a number for an operand of that word, small ones most often, edges sometimes.
func (d *dice) pick(word string, code, types int) int {
	switch word {
	case "kid", "part":
		return d.oneOf(-1, -1, 0, 0, 0, 1, 1, 2, 3, 63)
	case "kid0":
		return d.oneOf(0, 0, 1, 1, 2)
	case "width":
		return d.oneOf(1, 1, 1, 2, 4, 8)
	case "run":
		return d.oneOf(2, 2, 3)
	case "first":
		return d.oneOf(4, 8, 4194304, 4194305, 16777216)
	case "most":
		return d.oneOf(1, 2, 9, 1048576)
	case "count":
		return d.oneOf(1, 1, 2, 2, 3, 64)
	case "arms":
		return d.oneOf(1, 2, 3)
	case "tag":
		return d.below(256)
	case "place":
		return d.below(5)
	case "place1":
		return d.oneOf(-1, 0, 1, 2, 4)
	case "bytes":
		return d.oneOf(-1, 1, 8)
	case "size":
		return d.oneOf(1, 5)
	case "target":
		return d.below(code)
	case "type":
		return d.below(types)
	}
	return 0
}

// instr: one that looks like chance, and has its form (arms aside).
func (d *dice) instr(encodes bool, code, types int) api.Instr {
	for {
		all := machineRows(encodes)
		r := all[d.below(len(all))]
		if r.words[2] == "type" && types == 0 {
			continue
		}
		i := api.Instr{Op: r.op}
		for k, to := range []*int{&i.A, &i.B, &i.C} {
			*to = d.pick(r.words[k], code, types)
		}
		if r.name == "part" && min(i.A, i.B) == -1 {
			i.A, i.B = -1, -1
		}
		return i
	}
}

// mend: gives each union and choice as many arms as stand behind it, with tags that are not alike; one without any becomes a ret.
func mend(p api.Program) {
	for at := range p.Code {
		i := &p.Code[at]
		if i.Op != 8 && i.Op != 41 {
			continue
		}
		many := 0
		for many < i.A && at+1+many < len(p.Code) && p.Code[at+1+many].Op == 9 {
			many++
			p.Code[at+many].A = many
		}
		if i.A = many; many == 0 {
			*i = api.Instr{Op: 20}
		}
	}
}

// program: of n instructions and so many types that looks like chance, and has its form.
func (d *dice) program(encodes bool, n, types int) api.Program {
	p := api.Program{Encodes: encodes}
	for range types {
		p.Entry = append(p.Entry, d.below(n))
	}
	for range n {
		p.Code = append(p.Code, d.instr(encodes, n, types))
	}
	mend(p)
	return p
}

// next: a number instruction of so many fields at most, from a kid or place on; how many it has.
func (d *dice) next(encodes bool, from, most, width int) (api.Instr, int) {
	op := 1
	if encodes {
		op = 33
	}
	if most < 2 || d.below(3) > 0 {
		return api.Instr{Op: op, A: from, B: width}, 1
	}
	many := 2 + d.below(min(most-1, 4))
	return api.Instr{Op: op + 1, A: from, B: many, C: width}, many
}

// rowOf: number instructions that for the most part go on one another; no frame could run them.
func (d *dice) rowOf(encodes bool, n int) (out []api.Instr) {
	width := d.oneOf(1, 2, 4, 8)
	bound, step := 64, 1
	if encodes {
		bound, step = 1<<24, width
	}
	from := d.oneOf(0, 0, 1, 50, bound-40*step, bound-9*step)
	from = max(from, 0)
	for range n {
		if d.below(8) == 0 {
			from += d.oneOf(-1, 1, 2)
		}
		if d.below(8) == 0 {
			width = d.oneOf(1, 2, 4, 8)
			if encodes {
				step = width
			}
		}
		if from < 0 || from >= bound {
			from = 0
		}
		i, many := d.next(encodes, from, (bound-from)/step, width)
		out = append(out, i)
		from += many * step
	}
	return out
}

// routine: as chapters 16 and 17 lay one of a type of some kind, with code so long ahead of it; the types that it is made of lie below.
func (d *dice) routine(encodes bool, from, below int) []api.Instr {
	if d.below(2) == 0 {
		return d.record(encodes, below)
	}
	if encodes {
		return d.encoderRoutine(from, below)
	}
	return d.decoderRoutine(from, below)
}

func (d *dice) decoderRoutine(from, below int) []api.Instr {
	ret := api.Instr{Op: 20}
	read := func(k int) api.Instr {
		if below > 0 && d.below(3) == 0 {
			return api.Instr{Op: 16, A: k, C: d.below(below)}
		}
		return []api.Instr{{Op: 1, A: k, B: 4}, {Op: 3, A: k}, {Op: 4, A: k}}[d.below(3)]
	}
	kind := d.below(7)
	if below == 0 {
		kind = d.oneOf(0, 1, 3, 5, 6)
	}
	t := d.below(max(below, 1))
	switch kind {
	case 0:
		return []api.Instr{read(-1), ret}
	case 1:
		return []api.Instr{{Op: 5}, read(-1), {Op: 14, A: 3, B: from + 1}, ret}
	case 2:
		return []api.Instr{{Op: 5}, {Op: 10, A: 8}, {Op: 12, B: from + 1}, {Op: 19, B: from + 6}, {Op: 17, A: -1, B: -1, C: t}, {Op: 18, A: -1}, {Op: 15, B: from + 4}, ret}
	case 3:
		return []api.Instr{{Op: 5}, {Op: 13, A: 9, B: from + 4}, read(-1), {Op: 19, B: from + 1}, ret}
	case 4:
		return []api.Instr{{Op: 5}, {Op: 11, A: 9, B: from + 9}, {Op: 19, B: from + 4}, {Op: 10, A: 4}, {Op: 12, B: from + 3}, {Op: 19, B: from + 8}, {Op: 17, A: -1, B: -1, C: t}, {Op: 18, A: -1}, {Op: 15, B: from + 6}, ret}
	case 5:
		return []api.Instr{{Op: 7, B: from + 2}, read(0), ret}
	}
	many := 1 + d.below(4)
	out := []api.Instr{{Op: 8, A: many}}
	end := from + 3*many
	for k := range many {
		out = append(out, api.Instr{Op: 9, A: k, B: from + 1 + many + 2*k})
	}
	for range many {
		out = append(out, read(0), api.Instr{Op: 19, B: end})
	}
	out[len(out)-1] = ret
	return out
}

func (d *dice) encoderRoutine(from, below int) []api.Instr {
	ret := api.Instr{Op: 20}
	at := func(place int) api.Instr {
		if below > 0 && d.below(3) == 0 {
			return []api.Instr{{Op: 44, A: place, C: d.below(below)}, {Op: 46, C: d.below(below)}}[d.below(2)]
		}
		return []api.Instr{{Op: 33, A: place, B: 1}, {Op: 35, A: place}, {Op: 36}}[d.below(3)]
	}
	item := func() api.Instr {
		if below > 0 && d.below(2) == 0 {
			return []api.Instr{{Op: 45, A: 5, C: d.below(below)}, {Op: 46, C: d.below(below)}}[d.below(2)]
		}
		return []api.Instr{{Op: 33, A: -1, B: 1}, {Op: 35, A: -1}}[d.below(2)]
	}
	switch d.below(6) {
	case 0:
		return []api.Instr{at(0), ret}
	case 1:
		return []api.Instr{{Op: 37, A: 3}, item(), {Op: 47, B: from + 1}, ret}
	case 2:
		return []api.Instr{{Op: 37, A: 3}, {Op: 42, A: -1}, {Op: 43, A: -1}, item(), {Op: 47, B: from + 2}, ret}
	case 3:
		return []api.Instr{{Op: 38, A: 9}, {Op: 42, A: -1}, {Op: 19, B: from + 5}, {Op: 43, A: -1}, item(), {Op: 47, B: from + 3}, ret}
	case 4:
		return []api.Instr{{Op: 40, B: from + 2}, at(1), ret}
	}
	many := 1 + d.below(4)
	out := []api.Instr{{Op: 41, A: many}}
	for k := range many {
		out = append(out, api.Instr{Op: 9, A: k, B: from + 1 + many + 2*k})
	}
	for range many {
		out = append(out, at(1), ret)
	}
	return out
}

// record: a struct's routine: runs of numbers, in another order sometimes, and other fields between them.
func (d *dice) record(encodes bool, below int) []api.Instr {
	kids := d.oneOf(1, 2, 3, 5, 8, 12, 20, 64)
	if encodes {
		return d.encoderRecord(kids, below)
	}
	out := []api.Instr{{Op: 6}}
	var parts []int
	width := d.oneOf(1, 2, 4, 8)
	cut := d.oneOf(0, 0, d.below(kids))
	for _, piece := range [][2]int{{cut, kids}, {0, cut}} {
		for k := piece[0]; k < piece[1]; k++ {
			switch d.below(12) {
			case 0:
				out = append(out, api.Instr{Op: 3, A: k})
			case 1:
				if below > 0 {
					out = append(out, api.Instr{Op: 10, A: 4})
					parts = append(parts, k)
					break
				}
				fallthrough
			case 2:
				width = d.oneOf(1, 2, 4, 8)
				fallthrough
			default:
				i, many := d.next(false, k, piece[1]-k, width)
				out = append(out, i)
				k += many - 1
			}
		}
	}
	for j, k := range parts {
		out = append(out, api.Instr{Op: 17, A: k, B: j, C: d.below(below)}, api.Instr{Op: 18, A: j})
	}
	return append(out, api.Instr{Op: 20})
}

func (d *dice) encoderRecord(kids, below int) []api.Instr {
	out := []api.Instr{{Op: 39, A: kids}}
	place, width := d.oneOf(0, 0, 3, 1<<24-30), d.oneOf(1, 2, 4, 8)
	for k := 0; k < kids; k++ {
		switch d.below(12) {
		case 0:
			out = append(out, api.Instr{Op: 35, A: place})
			place++
		case 1:
			place += d.oneOf(-1, 1, 5)
			fallthrough
		case 2:
			width = d.oneOf(1, 2, 4, 8)
			fallthrough
		default:
			if place < 0 || place >= 1<<24 {
				place = 0
			}
			i, many := d.next(true, place, min(kids-k, (1<<24-place)/width), width)
			out = append(out, i)
			place += many * width
			k += many - 1
		}
		if place >= 1<<24 {
			place = 0
		}
	}
	return append(out, api.Instr{Op: 20})
}

// laid: so many routines one behind the other, each taken by itself and with those ahead.
func (d *dice) laid(encodes bool, types int) api.Program {
	p := api.Program{Encodes: encodes}
	for range types {
		for {
			q := api.Program{Encodes: encodes, Code: slices.Clone(p.Code), Entry: append(slices.Clone(p.Entry), len(p.Code))}
			q.Code = append(q.Code, d.routine(encodes, len(p.Code), len(p.Entry))...)
			if sound.Verify(q) == ok {
				p = q
				break
			}
		}
	}
	return p
}

// change: another instruction, operand or entry, one left out or laid in, or two that have changed places.
func (d *dice) change(p api.Program) api.Program {
	p = cloned(p)
	n, at := len(p.Code), d.below(len(p.Code))
	switch d.below(8) {
	case 0:
		if len(p.Entry) > 0 {
			p.Entry[d.below(len(p.Entry))] = at
		}
	case 1, 2:
		p.Code[at] = d.instr(p.Encodes, n, len(p.Entry))
	case 3:
		p.Code[at].B = d.below(n)
	case 4:
		i := &p.Code[at]
		to := []*int{&i.A, &i.B, &i.C}[d.below(3)]
		*to += d.oneOf(-1, 1)
	case 5:
		k := d.below(n)
		p.Code[at], p.Code[k] = p.Code[k], p.Code[at]
	case 6:
		p.Code = slices.Insert(p.Code, at, d.instr(p.Encodes, n, len(p.Entry)))
	case 7:
		if n > 1 {
			p.Code = slices.Delete(p.Code, at, at+1)
		}
	}
	return p
}

// detour: one target or entry goes to a new jump behind all, which leads where it led.
func (d *dice) detour(p api.Program) api.Program {
	p = cloned(p)
	var fields []*int
	for at := range p.Entry {
		fields = append(fields, &p.Entry[at])
	}
	for at := range p.Code {
		if targeted(p.Code[at].Op) {
			fields = append(fields, &p.Code[at].B)
		}
	}
	field := fields[d.below(len(fields))]
	was := *field
	*field = len(p.Code)
	p.Code = append(p.Code, api.Instr{Op: 19, B: was})
	return p
}

// rubbish: n instructions that nothing leads to: rows of numbers, jumps, and such as have targets all over the code, which has so many instructions then.
func (d *dice) rubbish(p api.Program, n, all int) (out []api.Instr) {
	for len(out) < n {
		switch d.below(4) {
		case 0:
			out = append(out, d.instr(p.Encodes, all, len(p.Entry)))
		case 1, 2:
			out = append(out, api.Instr{Op: 19, B: d.below(all)})
		default:
			out = append(out, d.rowOf(p.Encodes, min(n-len(out), 1+d.below(6)))...)
		}
	}
	mend(api.Program{Code: out})
	return out
}

// gaps: where instructions can be laid in that nothing comes to: ahead of all, and behind those that don't go on with the next one.
func gaps(p api.Program) []int {
	out := []int{0}
	for at, i := range p.Code {
		switch nameOf(i.Op) {
		case "ret", "jump", "arm":
			if armOwner(p, at+1) < 0 {
				out = append(out, at+1)
			}
		}
	}
	return out
}

// littered: a program with rubbish in some of its gaps.
func (d *dice) littered(p api.Program) api.Program {
	for range 1 + d.below(4) {
		l := gaps(p)
		n := 1 + d.below(6)
		p = laidIn(p, l[d.below(len(l))], d.rubbish(p, n, len(p.Code)+n)...)
	}
	return p
}

// laidOut: routines with jumps between, detours and rubbish in their gaps, which sound.Verify takes.
func (d *dice) laidOut(encodes bool, types int) api.Program {
	p := d.laid(encodes, types)
	for range d.below(4) {
		p = d.detour(p)
	}
	for range d.below(4) {
		if at := 1 + d.below(len(p.Code)-1); armOwner(p, at) < 0 {
			p = laidIn(p, at, api.Instr{Op: 19, B: at + 1})
		}
	}
	if d.below(3) > 0 {
		p = d.littered(p)
	}
	switch d.below(6) {
	case 0:
		p.Entry = p.Entry[:1+d.below(len(p.Entry))]
	case 1:
		// What the others had, nothing leads to any more.
		only := p.Entry[d.below(len(p.Entry))]
		p.Entry = slices.Repeat([]int{only}, len(p.Entry))
	}
	if f := sound.Verify(p); f == ok {
		return p
	}
	// Fewer types may leave instructions that name those that are gone.
	return d.laidOut(encodes, types)
}

// targeted: the instructions that have a target, by their numbers.
func targeted(op int) bool {
	switch nameOf(op) {
	case "option", "first", "slots", "item", "less", "parts", "jump", "arm", "maybe", "again":
		return true
	}
	return false
}

func cloned(p api.Program) api.Program {
	p.Code, p.Entry = slices.Clone(p.Code), slices.Clone(p.Entry)
	return p
}

// armOwner: the number of the union or choice to which an instruction belongs as an arm, or -1.
func armOwner(p api.Program, at int) int {
	for k := max(0, at-64); k < at; k++ {
		if i := p.Code[k]; (i.Op == 8 || i.Op == 41) && at <= k+i.A {
			return k
		}
	}
	return -1
}

// laidIn: the program with instructions laid in ahead of one; every target and entry of the others goes where it went.
func laidIn(p api.Program, at int, l ...api.Instr) api.Program {
	after := func(n int) int {
		if n >= at {
			return n + len(l)
		}
		return n
	}
	p = cloned(p)
	for k := range p.Code {
		if targeted(p.Code[k].Op) {
			p.Code[k].B = after(p.Code[k].B)
		}
	}
	for k := range p.Entry {
		p.Entry[k] = after(p.Entry[k])
	}
	p.Code = slices.Insert(p.Code, at, l...)
	return p
}
