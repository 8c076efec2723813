package decoder_test

import (
	"slices"
	"testing"

	"mortise/api"
	"mortise/prune"
	"mortise/sound"
)

// pick: a number for an operand of that word, small ones most often.
func (d *dice) pick(word string, code, types int) int {
	switch word {
	case "kid", "part":
		return d.oneOf(-1, -1, 0, 0, 0, 1, 1, 2, 3)
	case "kid0":
		return d.oneOf(0, 0, 1, 1, 2)
	case "width":
		return d.oneOf(1, 1, 1, 2, 4, 8)
	case "run":
		return d.oneOf(2, 2, 3)
	case "first":
		return d.oneOf(4, 5, 8, 11, 12)
	case "most":
		return d.oneOf(1, 2, 3, 9)
	case "arms":
		return d.oneOf(1, 2, 3)
	case "tag":
		return d.below(256)
	case "target":
		return d.below(code)
	case "type":
		return d.below(types)
	}
	return 0
}

// instr: one that looks like chance, and has its form (arms aside).
func (d *dice) instr(code, types int) api.Instr {
	r := table[d.below(len(table))]
	i := api.Instr{Op: r.op}
	for k, to := range []*int{&i.A, &i.B, &i.C} {
		*to = d.pick(r.words[k], code, types)
	}
	if r.name == "part" && min(i.A, i.B) == -1 {
		i.A, i.B = -1, -1
	}
	return i
}

// routine: of some kind, nearly as chapter 16 lays it, with code so long ahead of it; the types that it is made of lie below.
func (d *dice) routine(from, below int) []api.Instr {
	ret := api.Instr{Op: 20}
	read := func(k int) api.Instr {
		if below > 0 && d.below(2) == 0 {
			return api.Instr{Op: 16, A: k, C: d.below(below)}
		}
		return []api.Instr{{Op: 1, A: k, B: d.oneOf(1, 2)}, {Op: 3, A: k}, {Op: 4, A: k}}[d.below(3)]
	}
	t := d.below(max(below, 1))
	kind := d.below(10)
	if below == 0 {
		kind = d.below(6)
	}
	most := d.oneOf(1, 2, 3)
	switch kind {
	case 0:
		return []api.Instr{read(-1), ret}
	case 1:
		return []api.Instr{{Op: 5}, ret}
	case 2:
		return []api.Instr{{Op: 5}, read(-1), {Op: 14, A: most, B: from + 1}, ret}
	case 3:
		return []api.Instr{{Op: 5}, {Op: 13, A: most, B: from + 4}, read(-1), {Op: 19, B: from + 1}, ret}
	case 4:
		return []api.Instr{{Op: 7, B: from + 2}, read(0), ret}
	case 5:
		return d.unionRoutine(from, read)
	case 6:
		return []api.Instr{{Op: 5}, {Op: 10, A: d.oneOf(4, 8, 9)}, {Op: 12, B: from + 1}, {Op: 19, B: from + 6}, {Op: 17, A: -1, B: -1, C: t}, {Op: 18, A: -1}, {Op: 15, B: from + 4}, ret}
	case 7:
		return []api.Instr{{Op: 5}, {Op: 11, A: most, B: from + 9}, {Op: 19, B: from + 4}, {Op: 10, A: 4}, {Op: 12, B: from + 3}, {Op: 19, B: from + 8}, {Op: 17, A: -1, B: -1, C: t}, {Op: 18, A: -1}, {Op: 15, B: from + 6}, ret}
	}
	return d.structRoutine(read, below)
}

func (d *dice) unionRoutine(from int, read func(k int) api.Instr) []api.Instr {
	many := 1 + d.below(4)
	out := []api.Instr{{Op: 8, A: many}}
	behind := from + 3*many
	for k := range many {
		out = append(out, api.Instr{Op: 9, A: k, B: from + 1 + many + 2*k})
	}
	for range many {
		out = append(out, read(0), api.Instr{Op: 19, B: behind})
	}
	out[len(out)-1] = api.Instr{Op: 20}
	return out
}

// structRoutine: fields, some of them by an offset; kids in any order; some uints at once; tails aren't always there, nor always behind their parts.
func (d *dice) structRoutine(read func(k int) api.Instr, below int) []api.Instr {
	out := []api.Instr{{Op: 6}}
	var parts []int
	kids := 1 + d.below(6)
	for k := 0; k < kids; k++ {
		switch {
		case d.below(3) == 0:
			parts = append(parts, k)
			out = append(out, api.Instr{Op: 10, A: 4 + d.below(5)})
		case k+1 < kids && d.below(3) == 0:
			out = append(out, api.Instr{Op: 2, A: k, B: 2, C: d.oneOf(1, 2)})
			k++
		default:
			out = append(out, read(k))
		}
	}
	if d.below(4) == 0 {
		slices.Reverse(out[1:])
	}
	for j, k := range parts {
		out = append(out, api.Instr{Op: 17, A: k, B: j, C: d.below(below)})
		if d.below(4) > 0 {
			out = append(out, api.Instr{Op: 18, A: d.below(j + 1)})
		}
	}
	return append(out, api.Instr{Op: 20})
}

// laid: so many routines one behind the other, each taken by itself and with those ahead.
func (d *dice) laid(types int) (p api.Program) {
	for range types {
		for {
			q := cloned(p)
			q.Entry = append(q.Entry, len(q.Code))
			q.Code = append(q.Code, d.routine(len(p.Code), len(p.Entry))...)
			if sound.Verify(q) == ok {
				p = q
				break
			}
		}
	}
	return p
}

// change: another instruction, operand or entry, one left out or laid in, or two that have changed places.
func (d *dice) change(p api.Program) api.Program {
	p = cloned(p)
	n, at := len(p.Code), d.below(len(p.Code))
	switch d.below(8) {
	case 0:
		p.Entry[d.below(len(p.Entry))] = at
	case 1, 2:
		p.Code[at] = d.instr(n, len(p.Entry))
	case 3:
		p.Code[at].B = d.below(n)
	case 4:
		i := &p.Code[at]
		to := []*int{&i.A, &i.B, &i.C}[d.below(3)]
		*to += d.oneOf(-1, 1)
	case 5:
		k := d.below(n)
		p.Code[at], p.Code[k] = p.Code[k], p.Code[at]
	case 6:
		p.Code = slices.Insert(p.Code, at, d.instr(n, len(p.Entry)))
	case 7:
		p.Code = slices.Delete(p.Code, at, at+1)
	}
	return p
}

// changed: a program that has come of another one by changes that sound.Verify takes, as many as may be.
func (d *dice) changed(p api.Program) api.Program {
	for range 20 {
		if q := d.change(p); len(q.Code) > 0 && sound.Verify(q) == ok {
			p = q
		}
	}
	return p
}

func cloned(p api.Program) api.Program {
	p.Code, p.Entry = slices.Clone(p.Code), slices.Clone(p.Entry)
	return p
}

// P23.3 to P23.8, P23.11 to P23.13, P9's words: code that is sound and is not lower's, by chance, as it is and after all passes: the model, byte by byte, in chunks, copied, saved and loaded; within its cost.
func TestChanceCode(t *testing.T) {
	d := dice(71)
	seen := count{}
	for n := range 500 {
		p := d.changed(d.laid(1 + n%8))
		x := price(t, p)
		optimised, f := prune.Optimise(p)
		if f != ok {
			t.Fatalf("P20.3: Optimise(%s) = %v", brief(p), f)
		}
		for i := range p.Entry {
			for _, b := range [][]byte{d.led(p, i, 40), d.bytes(d.below(12))} {
				is := all(t, &d, p, i, b)
				seen[is.fault.Err]++
				m := newMachine(t, p, i)
				m.Feed(b)
				m.End()
				withinCost(t, x, m, len(b))
				other := runs(t, optimised, i, b)
				if other.fault != is.fault || !slices.Equal(other.value, is.value) {
					t.Fatalf("P20.6: %s: %s: %s, after all passes %s", brief(p), briefBytes(b), is, other)
				}
			}
		}
	}
	seen.enough(t, 5)
}

// P23.3, P23.4: small programs, all of them of a few instructions, that sound.Verify takes; a few bytes, all of them.
func TestAllSmallCode(t *testing.T) {
	alphabet := []api.Instr{{Op: 1, A: -1, B: 1}, {Op: 1, A: 0, B: 2}, {Op: 2, A: 0, B: 2, C: 1}, {Op: 3, A: 0}, {Op: 4, A: -1}, {Op: 5}, {Op: 6}, {Op: 7, B: 2}, {Op: 10, A: 4}, {Op: 11, A: 1, B: 3}, {Op: 12, B: 1}, {Op: 13, A: 1, B: 3}, {Op: 14, A: 2, B: 1}, {Op: 18, A: -1}, {Op: 19, B: 1}, {Op: 20}}
	bytes := []byte{0, 1, 2, 4, 0x80}
	taken, code := 0, make([]api.Instr, 4)
	for script := range len(alphabet) * len(alphabet) * len(alphabet) {
		for left, k := script, 0; k < 3; k++ {
			code[k] = alphabet[left%len(alphabet)]
			left /= len(alphabet)
		}
		code[3] = api.Instr{Op: 20}
		p := api.Program{Code: code, Entry: []int{0}}
		if sound.Verify(p) != ok {
			continue
		}
		taken++
		for digits := range 5 * 5 * 5 * 5 * 5 {
			var b []byte
			for left := digits; left > 0; left /= 5 {
				b = append(b, bytes[left%5])
			}
			if f := runs(t, p, 0, b).fault; f == ok && digits%7 == 0 {
				goesThrough(t, p, 0, b)
			}
		}
	}
	if taken < 90 {
		t.Errorf("only %d small programs were taken", taken)
	}
}
