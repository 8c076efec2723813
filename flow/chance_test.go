package flow_test

import (
	"slices"

	"mortise/api"
	"mortise/sound"
)

// dice: numbers that look like chance, always the same ones.
type dice uint64

func (d *dice) below(n int) int {
	*d = *d*6364136223846793005 + 1442695040888963407
	return int(uint64(*d)>>33) % n
}

func (d *dice) oneOf(l ...int) int { return l[d.below(len(l))] }

// pick: a number for an operand of that word, small ones most often, edges sometimes.
func (d *dice) pick(word string, code, types int) int {
	switch word {
	case "kid", "part":
		return d.oneOf(-1, -1, 0, 0, 0, 1, 1, 2, 3, 63)
	case "kid0":
		return d.oneOf(0, 0, 1, 1, 2)
	case "width":
		return d.oneOf(1, 2, 4, 8)
	case "run":
		return d.oneOf(2, 2, 3)
	case "first":
		return d.oneOf(4, 8, 4194304, 4194305, 16777216)
	case "most":
		return d.oneOf(1, 2, 9, 1048576)
	case "count":
		return d.oneOf(1, 1, 2, 2, 3, 64)
	case "arms":
		return d.oneOf(1, 2, 3)
	case "tag":
		return d.below(256)
	case "place":
		return d.below(9)
	case "place1":
		return d.oneOf(-1, 0, 4)
	case "bytes":
		return d.oneOf(-1, 1, 8)
	case "size":
		return d.oneOf(1, 5)
	case "target":
		return d.below(code)
	case "type":
		return d.below(types)
	}
	return 0
}

// instr: one that looks like chance, and has its form (arms aside).
func (d *dice) instr(encodes bool, code, types int) api.Instr {
	for {
		all := machineRows(encodes)
		r := all[d.below(len(all))]
		if r.words[2] == "type" && types == 0 {
			continue
		}
		i := api.Instr{Op: r.op}
		for k, to := range []*int{&i.A, &i.B, &i.C} {
			*to = d.pick(r.words[k], code, types)
		}
		if r.name == "part" && min(i.A, i.B) == -1 {
			i.A, i.B = -1, -1
		}
		return i
	}
}

// mend: gives each union and choice as many arms as stand behind it, with tags that are not alike; one without any becomes a ret.
func mend(p api.Program) {
	for at := range p.Code {
		i := &p.Code[at]
		if i.Op != 8 && i.Op != 41 {
			continue
		}
		many := 0
		for many < i.A && at+1+many < len(p.Code) && p.Code[at+1+many].Op == 9 {
			many++
			p.Code[at+many].A = many
		}
		if i.A = many; many == 0 {
			*i = api.Instr{Op: 20}
		}
	}
}

// program: of n instructions and so many types that looks like chance, and has its form.
func (d *dice) program(encodes bool, n, types int) api.Program {
	p := api.Program{Encodes: encodes}
	for range types {
		p.Entry = append(p.Entry, d.below(n))
	}
	for range n {
		p.Code = append(p.Code, d.instr(encodes, n, types))
	}
	mend(p)
	return p
}

// routine: as chapters 16 and 17 lay one of a type of some kind, with code so long ahead of it; the types that it is made of lie below.
func (d *dice) routine(encodes bool, from, below int) []api.Instr {
	if encodes {
		return d.encoderRoutine(from, below)
	}
	return d.decoderRoutine(from, below)
}

func (d *dice) decoderRoutine(from, below int) []api.Instr {
	ret := api.Instr{Op: 20}
	read := func(k int) api.Instr {
		// The types below may be such as don't pay: where that is refused, a uint is as good.
		if below > 0 && d.below(3) == 0 {
			return api.Instr{Op: 16, A: k, C: d.below(below)}
		}
		return []api.Instr{{Op: 1, A: k, B: 4}, {Op: 3, A: k}, {Op: 4, A: k}}[d.below(3)]
	}
	kind := d.below(8)
	if below == 0 {
		kind = d.oneOf(0, 1, 3, 5, 6)
	}
	t := d.below(max(below, 1))
	switch kind {
	case 0:
		return []api.Instr{read(-1), ret}
	case 1:
		return []api.Instr{{Op: 5}, read(-1), {Op: 14, A: 3, B: from + 1}, ret}
	case 2:
		return []api.Instr{{Op: 5}, {Op: 10, A: 8}, {Op: 12, B: from + 1}, {Op: 19, B: from + 6}, {Op: 17, A: -1, B: -1, C: t}, {Op: 18, A: -1}, {Op: 15, B: from + 4}, ret}
	case 3:
		return []api.Instr{{Op: 5}, {Op: 13, A: 9, B: from + 4}, read(-1), {Op: 19, B: from + 1}, ret}
	case 4:
		return []api.Instr{{Op: 5}, {Op: 11, A: 9, B: from + 9}, {Op: 19, B: from + 4}, {Op: 10, A: 4}, {Op: 12, B: from + 3}, {Op: 19, B: from + 8}, {Op: 17, A: -1, B: -1, C: t}, {Op: 18, A: -1}, {Op: 15, B: from + 6}, ret}
	case 5:
		return []api.Instr{{Op: 7, B: from + 2}, read(0), ret}
	case 6:
		many := 1 + d.below(4)
		out := []api.Instr{{Op: 8, A: many}}
		end := from + 3*many
		for k := range many {
			out = append(out, api.Instr{Op: 9, A: k, B: from + 1 + many + 2*k})
		}
		for range many {
			out = append(out, read(0), api.Instr{Op: 19, B: end})
		}
		out[len(out)-1] = ret
		return out
	}
	return d.structRoutine(read, t)
}

// structRoutine: fields, some of them by an offset; sometimes two or three uints at once.
func (d *dice) structRoutine(read func(k int) api.Instr, t int) []api.Instr {
	out := []api.Instr{{Op: 6}}
	var parts []int
	kids := 1 + d.below(6)
	for k := 0; k < kids; k++ {
		switch {
		case d.below(3) == 0:
			parts = append(parts, k)
			out = append(out, api.Instr{Op: 10, A: 4})
		case k+1 < kids && d.below(3) == 0:
			out = append(out, api.Instr{Op: 2, A: k, B: 2, C: 1})
			k++
		default:
			out = append(out, read(k))
		}
	}
	for j, k := range parts {
		out = append(out, api.Instr{Op: 17, A: k, B: j, C: t}, api.Instr{Op: 18, A: j})
	}
	return append(out, api.Instr{Op: 20})
}

func (d *dice) encoderRoutine(from, below int) []api.Instr {
	ret := api.Instr{Op: 20}
	at := func(place int) api.Instr {
		if below > 0 && d.below(3) == 0 {
			return []api.Instr{{Op: 44, A: place, C: d.below(below)}, {Op: 46, C: d.below(below)}}[d.below(2)]
		}
		return []api.Instr{{Op: 33, A: place, B: 1}, {Op: 35, A: place}, {Op: 36}}[d.below(3)]
	}
	item := func() api.Instr {
		if below > 0 && d.below(2) == 0 {
			return []api.Instr{{Op: 45, A: 5, C: d.below(below)}, {Op: 46, C: d.below(below)}}[d.below(2)]
		}
		return []api.Instr{{Op: 33, A: -1, B: 1}, {Op: 35, A: -1}}[d.below(2)]
	}
	switch d.below(7) {
	case 0:
		return []api.Instr{at(0), ret}
	case 1:
		return []api.Instr{{Op: 37, A: 3}, item(), {Op: 47, B: from + 1}, ret}
	case 2:
		return []api.Instr{{Op: 37, A: 3}, {Op: 42, A: -1}, {Op: 43, A: -1}, item(), {Op: 47, B: from + 2}, ret}
	case 3:
		return []api.Instr{{Op: 38, A: 9}, {Op: 42, A: -1}, {Op: 19, B: from + 5}, {Op: 43, A: -1}, item(), {Op: 47, B: from + 3}, ret}
	case 4:
		return []api.Instr{{Op: 40, B: from + 2}, at(1), ret}
	case 5:
		many := 1 + d.below(4)
		out := []api.Instr{{Op: 41, A: many}}
		for k := range many {
			out = append(out, api.Instr{Op: 9, A: k, B: from + 1 + many + 2*k})
		}
		for range many {
			out = append(out, at(1), ret)
		}
		return out
	}
	kids := 1 + d.below(6)
	out := []api.Instr{{Op: 39, A: kids}, {Op: 42, A: 8}}
	for k := 0; k < kids; k++ {
		if k+1 < kids && d.below(3) == 0 {
			out = append(out, api.Instr{Op: 34, A: k, B: 2, C: 1})
			k++
			continue
		}
		if d.below(3) == 0 {
			out = append(out, api.Instr{Op: 43, A: k})
		}
		out = append(out, at(k))
	}
	return append(out, ret)
}

// laid: so many routines one behind the other, each taken by itself and with those ahead.
func (d *dice) laid(encodes bool, types int) api.Program {
	p := api.Program{Encodes: encodes}
	for range types {
		for {
			q := api.Program{Encodes: encodes, Code: slices.Clone(p.Code), Entry: append(slices.Clone(p.Entry), len(p.Code))}
			q.Code = append(q.Code, d.routine(encodes, len(p.Code), len(p.Entry))...)
			if sound.Verify(q) == ok {
				p = q
				break
			}
		}
	}
	return p
}

// change: another instruction, operand or entry, one left out or laid in, or two that have changed places.
func (d *dice) change(p api.Program) api.Program {
	p.Code, p.Entry = slices.Clone(p.Code), slices.Clone(p.Entry)
	n, at := len(p.Code), d.below(len(p.Code))
	switch d.below(8) {
	case 0:
		if len(p.Entry) > 0 {
			p.Entry[d.below(len(p.Entry))] = at
		}
	case 1, 2:
		p.Code[at] = d.instr(p.Encodes, n, len(p.Entry))
	case 3:
		p.Code[at].B = d.below(n)
	case 4:
		i := &p.Code[at]
		to := []*int{&i.A, &i.B, &i.C}[d.below(3)]
		*to += d.oneOf(-1, 1)
	case 5:
		k := d.below(n)
		p.Code[at], p.Code[k] = p.Code[k], p.Code[at]
	case 6:
		p.Code = slices.Insert(p.Code, at, d.instr(p.Encodes, n, len(p.Entry)))
	case 7:
		if n > 1 {
			p.Code = slices.Delete(p.Code, at, at+1)
		}
	}
	return p
}

// detour: one target or entry goes to a new jump behind all, which leads where it led.
func (d *dice) detour(p api.Program) api.Program {
	p = cloned(p)
	var fields []*int
	for at := range p.Entry {
		fields = append(fields, &p.Entry[at])
	}
	for at := range p.Code {
		if targeted(p.Code[at].Op) {
			fields = append(fields, &p.Code[at].B)
		}
	}
	field := fields[d.below(len(fields))]
	was := *field
	*field = len(p.Code)
	p.Code = append(p.Code, api.Instr{Op: 19, B: was})
	return p
}

// litter: instructions that nothing reached leads to, jumps for the most part, whose targets are all over the code.
func (d *dice) litter(p api.Program, n int) api.Program {
	p = cloned(p)
	all := len(p.Code) + n
	for range n {
		i := api.Instr{Op: 19, B: d.below(all)}
		switch d.below(6) {
		case 0:
			i = d.instr(p.Encodes, all, len(p.Entry))
		case 1, 2:
			// Rings and chains come about where jumps lead to those about them.
			i.B = len(p.Code) - 2 + d.below(4)
			i.B = min(max(i.B, 0), all-1)
		}
		p.Code = append(p.Code, i)
	}
	mend(p)
	return p
}

// laidOut: routines with jumps between, detours and litter, which sound.Verify takes.
func (d *dice) laidOut(encodes bool, types int) api.Program {
	p := d.laid(encodes, types)
	for range d.below(5) {
		p = d.detour(p)
	}
	for range d.below(4) {
		if at := 1 + d.below(len(p.Code)-1); armOwner(p, at) < 0 {
			p = withJump(p, at)
		}
	}
	if d.below(2) == 0 {
		p = d.litter(p, 1+d.below(12))
	}
	if d.below(4) == 0 {
		p.Entry = p.Entry[:1+d.below(len(p.Entry))]
	}
	if f := sound.Verify(p); f == ok {
		return p
	}
	// Fewer types may leave instructions that name those that are gone.
	return d.laidOut(encodes, types)
}

// targeted: the instructions that have a target, by their numbers.
func targeted(op int) bool {
	switch nameOf(op) {
	case "option", "first", "slots", "item", "less", "parts", "jump", "arm", "maybe", "again":
		return true
	}
	return false
}

func cloned(p api.Program) api.Program {
	p.Code, p.Entry = slices.Clone(p.Code), slices.Clone(p.Entry)
	return p
}

// armOwner: the number of the union or choice to which an instruction belongs as an arm, or -1.
func armOwner(p api.Program, at int) int {
	for k := max(0, at-64); k < at; k++ {
		if i := p.Code[k]; (i.Op == 8 || i.Op == 41) && at <= k+i.A {
			return k
		}
	}
	return -1
}

// withJump: the program with a jump to the instruction behind it laid in ahead of an instruction; every target and entry goes where it went.
func withJump(p api.Program, at int) api.Program {
	moved := func(n int) int {
		if n >= at {
			return n + 1
		}
		return n
	}
	p = cloned(p)
	for k := range p.Code {
		if targeted(p.Code[k].Op) {
			p.Code[k].B = moved(p.Code[k].B)
		}
	}
	for k := range p.Entry {
		p.Entry[k] = moved(p.Entry[k])
	}
	p.Code = slices.Insert(p.Code, at, api.Instr{Op: 19, B: at + 1})
	return p
}
