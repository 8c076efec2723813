package cost_test

import (
	"slices"

	"mortise/api"
	"mortise/sound"
)

// dice: numbers that look like chance, always the same ones.
type dice uint64

func (d *dice) below(n int) int {
	*d = *d*6364136223846793005 + 1442695040888963407
	return int(uint64(*d)>>33) % n
}

func (d *dice) oneOf(l ...int) int { return l[d.below(len(l))] }

// pick: a number for an operand of that word, small ones most often, edges sometimes.
func (d *dice) pick(word string, code, types int) int {
	switch word {
	case "kid", "part":
		return d.oneOf(-1, -1, 0, 0, 0, 1, 1, 2, 3, 63)
	case "kid0":
		return d.oneOf(0, 0, 1, 1, 2)
	case "width":
		return d.oneOf(1, 1, 1, 2, 4, 8)
	case "run":
		return d.oneOf(2, 2, 3)
	case "first":
		return d.oneOf(4, 8, 4194304, 4194305, 16777216)
	case "most":
		return d.oneOf(1, 2, 9, 1048576)
	case "count":
		return d.oneOf(1, 1, 2, 2, 3, 64)
	case "arms":
		return d.oneOf(1, 2, 3)
	case "tag":
		return d.below(256)
	case "place":
		return d.below(5)
	case "place1":
		return d.oneOf(-1, 0, 1, 2, 4)
	case "bytes":
		return d.oneOf(-1, 1, 8)
	case "size":
		return d.oneOf(1, 5)
	case "target":
		return d.below(code)
	case "type":
		return d.below(types)
	}
	return 0
}

// instr: one that looks like chance, and has its form (arms aside).
func (d *dice) instr(encodes bool, code, types int) api.Instr {
	for {
		all := machineRows(encodes)
		r := all[d.below(len(all))]
		if r.words[2] == "type" && types == 0 {
			continue
		}
		i := api.Instr{Op: r.op}
		for k, to := range []*int{&i.A, &i.B, &i.C} {
			*to = d.pick(r.words[k], code, types)
		}
		if r.name == "part" && min(i.A, i.B) == -1 {
			i.A, i.B = -1, -1
		}
		return i
	}
}

// mend: gives each union and choice as many arms as stand behind it, with tags that are not alike; one without any becomes a ret.
func mend(p api.Program) {
	for at := range p.Code {
		i := &p.Code[at]
		if i.Op != 8 && i.Op != 41 {
			continue
		}
		many := 0
		for many < i.A && at+1+many < len(p.Code) && p.Code[at+1+many].Op == 9 {
			many++
			p.Code[at+many].A = many
		}
		if i.A = many; many == 0 {
			*i = api.Instr{Op: 20}
		}
	}
}

// program: of n instructions and so many types that looks like chance, and has its form.
func (d *dice) program(encodes bool, n, types int) api.Program {
	p := api.Program{Encodes: encodes}
	for range types {
		p.Entry = append(p.Entry, d.below(n))
	}
	for range n {
		p.Code = append(p.Code, d.instr(encodes, n, types))
	}
	mend(p)
	return p
}

// routine: as chapter 16 lays one of a type of some kind, or a shorter one, with code so long ahead of it; the types that it is made of lie below.
func (d *dice) routine(from, below int) []api.Instr {
	ret := api.Instr{Op: 20}
	read := func(k int) api.Instr {
		if below > 0 && d.below(2) == 0 {
			return api.Instr{Op: 16, A: k, C: d.below(below)}
		}
		return []api.Instr{{Op: 1, A: k, B: 4}, {Op: 3, A: k}, {Op: 4, A: k}}[d.below(3)]
	}
	t := d.below(max(below, 1))
	kind := d.below(10)
	if below == 0 {
		kind = d.oneOf(0, 1, 2, 3, 4, 5)
	}
	switch kind {
	case 0:
		return []api.Instr{read(-1), ret}
	case 1:
		return []api.Instr{{Op: 5}, ret}
	case 2:
		return []api.Instr{{Op: 5}, read(-1), {Op: 14, A: 3, B: from + 1}, ret}
	case 3:
		return []api.Instr{{Op: 5}, {Op: 13, A: 9, B: from + 4}, read(-1), {Op: 19, B: from + 1}, ret}
	case 4:
		return []api.Instr{{Op: 7, B: from + 2}, read(0), ret}
	case 5:
		return d.unionRoutine(from, read)
	case 6:
		return []api.Instr{{Op: 5}, {Op: 10, A: 8}, {Op: 12, B: from + 1}, {Op: 19, B: from + 6}, {Op: 17, A: -1, B: -1, C: t}, {Op: 18, A: -1}, {Op: 15, B: from + 4}, ret}
	case 7:
		return []api.Instr{{Op: 5}, {Op: 11, A: 9, B: from + 9}, {Op: 19, B: from + 4}, {Op: 10, A: 4}, {Op: 12, B: from + 3}, {Op: 19, B: from + 8}, {Op: 17, A: -1, B: -1, C: t}, {Op: 18, A: -1}, {Op: 15, B: from + 6}, ret}
	}
	return d.structRoutine(read, below)
}

func (d *dice) unionRoutine(from int, read func(k int) api.Instr) []api.Instr {
	many := 1 + d.below(4)
	out := []api.Instr{{Op: 8, A: many}}
	end := from + 3*many
	for k := range many {
		out = append(out, api.Instr{Op: 9, A: k, B: from + 1 + many + 2*k})
	}
	for range many {
		out = append(out, read(0), api.Instr{Op: 19, B: end})
	}
	out[len(out)-1] = api.Instr{Op: 20}
	return out
}

// structRoutine: fields, some of them by an offset; sometimes two uints at once; tails aren't always there.
func (d *dice) structRoutine(read func(k int) api.Instr, below int) []api.Instr {
	out := []api.Instr{{Op: 6}}
	var parts []int
	kids := 1 + d.below(7)
	for k := 0; k < kids; k++ {
		switch {
		case d.below(2) == 0:
			parts = append(parts, k)
			out = append(out, api.Instr{Op: 10, A: 4})
		case k+1 < kids && d.below(3) == 0:
			out = append(out, api.Instr{Op: 2, A: k, B: 2, C: 1})
			k++
		default:
			out = append(out, read(k))
		}
	}
	for j, k := range parts {
		out = append(out, api.Instr{Op: 17, A: k, B: j, C: d.below(below)})
		if d.below(4) > 0 {
			out = append(out, api.Instr{Op: 18, A: j})
		}
	}
	return append(out, api.Instr{Op: 20})
}

// laid: so many routines one behind the other, each taken by itself and with those ahead.
func (d *dice) laid(types int) (p api.Program) {
	for range types {
		for {
			q := cloned(p)
			q.Entry = append(q.Entry, len(q.Code))
			q.Code = append(q.Code, d.routine(len(p.Code), len(p.Entry))...)
			if sound.Verify(q) == ok {
				p = q
				break
			}
		}
	}
	return p
}

// change: another instruction, operand or entry, one left out or laid in, or two that have changed places.
func (d *dice) change(p api.Program) api.Program {
	p = cloned(p)
	n, at := len(p.Code), d.below(len(p.Code))
	switch d.below(8) {
	case 0:
		if len(p.Entry) > 0 {
			p.Entry[d.below(len(p.Entry))] = at
		}
	case 1, 2:
		p.Code[at] = d.instr(p.Encodes, n, len(p.Entry))
	case 3:
		p.Code[at].B = d.below(n)
	case 4:
		i := &p.Code[at]
		to := []*int{&i.A, &i.B, &i.C}[d.below(3)]
		*to += d.oneOf(-1, 1)
	case 5:
		k := d.below(n)
		p.Code[at], p.Code[k] = p.Code[k], p.Code[at]
	case 6:
		p.Code = slices.Insert(p.Code, at, d.instr(p.Encodes, n, len(p.Entry)))
	case 7:
		if n > 1 {
			p.Code = slices.Delete(p.Code, at, at+1)
		}
	}
	return p
}

// detour: one target or entry goes to a new jump behind all, which leads where it led.
func (d *dice) detour(p api.Program) api.Program {
	p = cloned(p)
	var fields []*int
	for at := range p.Entry {
		fields = append(fields, &p.Entry[at])
	}
	for at := range p.Code {
		if targeted(p.Code[at].Op) {
			fields = append(fields, &p.Code[at].B)
		}
	}
	field := fields[d.below(len(fields))]
	was := *field
	*field = len(p.Code)
	p.Code = append(p.Code, api.Instr{Op: 19, B: was})
	return p
}

// shared: types more whose routines lead into those that are there: at an entry, behind the seq or struct of one, or, as an entry, at what fills a place; and one that calls them.
func (d *dice) shared(p api.Program) api.Program {
	for range 1 + d.below(4) {
		q := cloned(p)
		at := d.below(len(q.Code))
		switch i := q.Code[at]; nameOf(i.Op) {
		case "seq", "struct":
			q.Entry = append(q.Entry, len(q.Code))
			q.Code = append(q.Code, i, api.Instr{Op: 19, B: at + 1})
		default:
			q.Entry = append(q.Entry, d.oneOf(at, q.Entry[d.below(len(q.Entry))]))
		}
		q.Entry = append(q.Entry, len(q.Code))
		q.Code = append(q.Code, api.Instr{Op: 7, B: len(q.Code) + 2}, api.Instr{Op: 16, C: len(q.Entry) - 2}, api.Instr{Op: 20})
		if sound.Verify(q) == ok {
			p = q
		}
	}
	return p
}

// littered: a program with instructions that nothing leads to behind it, which lead all over it.
func (d *dice) littered(p api.Program) api.Program {
	n := 1 + d.below(6)
	q := api.Program{}
	for range n {
		q.Code = append(q.Code, d.instr(false, len(p.Code)+n, len(p.Entry)))
	}
	mend(q)
	p = cloned(p)
	p.Code = append(p.Code, q.Code...)
	return p
}

// laidOut: routines with detours, shared code, jumps between and rubbish, which sound.Verify takes.
func (d *dice) laidOut(types int) api.Program {
	p := d.laid(types)
	for range d.below(3) {
		p = d.shared(p)
	}
	for range d.below(4) {
		p = d.detour(p)
	}
	for range d.below(4) {
		if at := 1 + d.below(len(p.Code)-1); armOwner(p, at) < 0 {
			p = laidIn(p, at, api.Instr{Op: 19, B: at + 1})
		}
	}
	if d.below(3) == 0 {
		p = d.littered(p)
	}
	return p
}

// targeted: the instructions that have a target, by their numbers.
func targeted(op int) bool {
	switch nameOf(op) {
	case "option", "first", "slots", "item", "less", "parts", "jump", "arm", "maybe", "again":
		return true
	}
	return false
}

func cloned(p api.Program) api.Program {
	p.Code, p.Entry = slices.Clone(p.Code), slices.Clone(p.Entry)
	return p
}

// armOwner: the number of the union or choice to which an instruction belongs as an arm, or -1.
func armOwner(p api.Program, at int) int {
	for k := max(0, at-64); k < at; k++ {
		if i := p.Code[k]; (i.Op == 8 || i.Op == 41) && at <= k+i.A {
			return k
		}
	}
	return -1
}

// laidIn: the program with instructions laid in ahead of one; every target and entry of the others goes where it went.
func laidIn(p api.Program, at int, l ...api.Instr) api.Program {
	after := func(n int) int {
		if n >= at {
			return n + len(l)
		}
		return n
	}
	p = cloned(p)
	for k := range p.Code {
		if targeted(p.Code[k].Op) {
			p.Code[k].B = after(p.Code[k].B)
		}
	}
	for k := range p.Entry {
		p.Entry[k] = after(p.Entry[k])
	}
	p.Code = slices.Insert(p.Code, at, l...)
	return p
}
