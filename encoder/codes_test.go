package encoder_test

import (
	"math"
	"slices"
	"testing"

	"mortise/api"
	"mortise/sound"
)

// pick: a number for an operand of that word, small ones most often.
func (d *dice) pick(word string, code, types int) int {
	switch word {
	case "place1":
		return d.oneOf(-1, -1, 0, 0, 1, 2, 4, 9)
	case "place":
		return d.oneOf(0, 0, 1, 2, 4, 9)
	case "width", "size":
		return d.oneOf(1, 1, 2, 4, 8)
	case "run":
		return d.oneOf(2, 2, 3)
	case "most", "count", "arms":
		return d.oneOf(1, 2, 3)
	case "tag":
		return d.below(256)
	case "bytes":
		return d.oneOf(-1, -1, 1, 2, 4, 8, 20)
	case "target":
		return d.below(code)
	case "type":
		return d.below(types)
	}
	return 0
}

// instr: one that looks like chance, and has its form (arms aside).
func (d *dice) instr(code, types int) api.Instr {
	r := table[d.below(len(table))]
	i := api.Instr{Op: r.op}
	for k, to := range []*int{&i.A, &i.B, &i.C} {
		*to = d.pick(r.words[k], code, types)
	}
	return i
}

// kid: an instruction that takes a kid at no turn.
func (d *dice) kid(below int) api.Instr {
	list := []api.Instr{{Op: 33, A: d.below(6), B: d.oneOf(1, 2, 4, 8)}, {Op: 35, A: d.below(6)}, {Op: 36}}
	if below > 0 {
		list = append(list, api.Instr{Op: 44, A: d.below(9), C: d.below(below)}, api.Instr{Op: 46, C: d.below(below)}, api.Instr{Op: 46, C: d.below(below)})
	}
	return list[d.below(len(list))]
}

// item: an instruction that takes a kid by its turn.
func (d *dice) item(below int) api.Instr {
	list := []api.Instr{{Op: 33, A: -1, B: d.oneOf(1, 2, 4, 8)}, {Op: 35, A: -1}}
	if below > 0 {
		list = append(list, api.Instr{Op: 45, A: 1 + d.below(9), C: d.below(below)}, api.Instr{Op: 46, C: d.below(below)}, api.Instr{Op: 46, C: d.below(below)})
	}
	return list[d.below(len(list))]
}

// routine: of some kind, nearly as chapter 17 lays it, with code so long ahead of it; the types that it is made of lie below.
func (d *dice) routine(from, below int) []api.Instr {
	ret := api.Instr{Op: 20}
	most := d.oneOf(1, 2, 3, 9)
	// Between others: what takes nothing.
	still := []api.Instr{{Op: 42, A: d.oneOf(-1, 3, 20)}, {Op: 43, A: -1}, {Op: 43, A: -1}}[d.below(3)]
	switch d.below(8) {
	case 0:
		return []api.Instr{d.kid(below), ret}
	case 1:
		return []api.Instr{{Op: 37, A: most}, d.item(below), {Op: 47, B: from + 1}, ret}
	case 2:
		return []api.Instr{{Op: 38, A: most}, {Op: 19, B: from + 3}, d.item(below), {Op: 47, B: from + 2}, ret}
	case 3:
		return []api.Instr{{Op: 38, A: most}, {Op: 42, A: -1}, {Op: 19, B: from + 5}, still, d.item(below), {Op: 47, B: from + 3}, ret}
	case 4:
		return []api.Instr{{Op: 40, B: from + 2}, d.kid(below), ret}
	case 5:
		return d.choiceRoutine(from, below)
	}
	return d.fieldsRoutine(below)
}

func (d *dice) choiceRoutine(from, below int) []api.Instr {
	many := 1 + d.below(4)
	out := []api.Instr{{Op: 41, A: many}}
	for k := range many {
		out = append(out, api.Instr{Op: 9, A: 200 - k, B: from + 1 + many + 2*k})
	}
	for range many {
		out = append(out, d.kid(below), api.Instr{Op: 20})
	}
	return out
}

// fieldsRoutine: kids at places in any order; room and slots here and there.
func (d *dice) fieldsRoutine(below int) []api.Instr {
	kids := 1 + d.below(6)
	out := []api.Instr{{Op: 39, A: kids}}
	for k := 0; k < kids; k++ {
		switch d.below(5) {
		case 0:
			out = append(out, api.Instr{Op: 42, A: 1 + d.below(30)})
		case 1:
			out = append(out, api.Instr{Op: 43, A: d.below(20)})
		}
		if k+1 < kids && d.below(3) == 0 {
			out = append(out, api.Instr{Op: 34, A: d.below(9), B: 2, C: d.oneOf(1, 2)})
			k++
			continue
		}
		out = append(out, d.kid(below))
	}
	return append(out, api.Instr{Op: 20})
}

// laid: so many routines one behind the other, each taken by itself and with those ahead.
func (d *dice) laid(types int) api.Program {
	p := api.Program{Encodes: true}
	for range types {
		for {
			q := cloned(p)
			q.Entry = append(q.Entry, len(q.Code))
			q.Code = append(q.Code, d.routine(len(p.Code), len(p.Entry))...)
			if sound.Verify(q) == ok {
				p = q
				break
			}
		}
	}
	return p
}

// change: another instruction, operand or entry, one left out or laid in, or two that have changed places.
func (d *dice) change(p api.Program) api.Program {
	p = cloned(p)
	n, at := len(p.Code), d.below(len(p.Code))
	switch d.below(8) {
	case 0:
		p.Entry[d.below(len(p.Entry))] = at
	case 1, 2:
		p.Code[at] = d.instr(n, len(p.Entry))
	case 3:
		p.Code[at].B = d.below(n)
	case 4:
		i := &p.Code[at]
		to := []*int{&i.A, &i.B, &i.C}[d.below(3)]
		*to += d.oneOf(-1, 1)
	case 5:
		k := d.below(n)
		p.Code[at], p.Code[k] = p.Code[k], p.Code[at]
	case 6:
		p.Code = slices.Insert(p.Code, at, d.instr(n, len(p.Entry)))
	case 7:
		p.Code = slices.Delete(p.Code, at, at+1)
	}
	return p
}

// changed: a program that has come of another one by changes that sound.Verify takes, as many as may be.
func (d *dice) changed(p api.Program) api.Program {
	for range 20 {
		if q := d.change(p); len(q.Code) > 0 && sound.Verify(q) == ok {
			p = q
		}
	}
	return p
}

func cloned(p api.Program) api.Program {
	p.Code, p.Entry = slices.Clone(p.Code), slices.Clone(p.Entry)
	return p
}

// wanted: a value that a type's routine takes, made on the way through it; more than room nodes only if it must.
func (d *dice) wanted(p api.Program, n, room int) []api.Node {
	var out []api.Node
	var routine func(t int)
	routine = func(t int) {
		kids, next := 0, 0
		for at := p.Entry[t]; ; {
			i := p.Code[at]
			at++
			switch nameOf(i.Op) {
			case "number":
				out = append(out, u(d.bits()>>(64-8*i.B)))
				next++
			case "leb":
				out = append(out, u(d.bits()>>d.below(64)))
			case "numbers":
				for range i.B {
					out = append(out, u(d.bits()>>(64-8*i.C)))
				}
			case "flag":
				out = append(out, b(uint64(d.below(2))))
				next++
			case "many", "upto":
				kids = i.A
				if i.Op == 38 {
					kids = d.below(1 + min(i.A, max(0, room-len(out)), 5))
				}
				out = append(out, s(kids))
			case "fields":
				out = append(out, st(i.A))
			case "maybe":
				out = append(out, o(d.below(2)))
				if out[len(out)-1].Kids == 0 {
					at = i.B
				}
			case "choice":
				arm := p.Code[at+d.below(i.A)]
				out = append(out, c(uint64(arm.A)))
				at = arm.B
			case "enter", "each", "append":
				next++
				routine(i.C)
			case "again":
				if next < kids {
					at = i.B
				}
			case "jump":
				at = i.B
			case "ret":
				return
			}
		}
	}
	routine(n)
	return out
}

// fewCaps: caps about a length, and the greatest one.
func fewCaps(length int) []int { return []int{0, max(length-1, 0), length, math.MaxInt} }

// P24.2, P24.3, P24.5, P20.6, P9's words: code that is sound and is not raise's, by chance: values that it takes, and what comes of them by a change; the model, and behind all passes.
func TestChanceCode(t *testing.T) {
	d := dice(91)
	seen := count{}
	for n := range 400 {
		p := d.changed(d.laid(1 + n%8))
		all := passed(t, p)
		for i := range p.Entry {
			l := d.wanted(p, i, 40)
			if len(l) > 300 {
				continue
			}
			x := asModelUnder(t, p, i, l, fewCaps)
			if x.fault != ok {
				t.Fatalf("the test's value is refused: %v: %s: %s", x.fault, briefValue(l), brief(p))
			}
			seen[api.OK]++
			passesAre(t, p, all, i, l)
			for _, w := range d.others(l, d.below(len(l))) {
				f := checked(t, p, i, w)
				seen[f.Err]++
				if d.below(5) == 0 {
					passesAre(t, p, all, i, w)
				}
			}
		}
	}
	seen.enough(t, 100)
}

// checked: nodes that are a value against the model, others against value.Check.
func checked(t *testing.T, p api.Program, n int, w []api.Node) api.Fault {
	t.Helper()
	if f := checkOf(w); f != ok {
		runIs(t, p, n, w, 99, nil, 0, f)
		return f
	}
	return asModelUnder(t, p, n, w, fewCaps).fault
}

// P24.2, P24.3: small programs, all of them of a few instructions, that sound.Verify takes: all small values, and what they want.
func TestAllSmallCode(t *testing.T) {
	alphabet := []api.Instr{{Op: 33, B: 1}, {Op: 33, A: -1, B: 2}, {Op: 34, A: 1, B: 2, C: 1}, {Op: 35, A: 1}, {Op: 35, A: -1}, {Op: 36}, {Op: 37, A: 2}, {Op: 38, A: 2}, {Op: 39, A: 2}, {Op: 40, B: 4}, {Op: 41, A: 1}, {Op: 9, A: 5, B: 2}, {Op: 42, A: 3}, {Op: 42, A: -1}, {Op: 43, A: 1}, {Op: 43, A: -1}, {Op: 44, A: 2}, {Op: 45, A: 3}, {Op: 46}, {Op: 47, B: 1}, {Op: 19, B: 2}, {Op: 19, B: 3}}
	values := [][]api.Node{v(u(5)), v(u(300)), v(u(1 << 20)), v(b(1)), v(s(0)), v(s(1), u(1)), v(s(2), u(1), u(300)), v(s(2), b(0), b(1)), v(s(3), u(1), u(2), u(3)), v(st(1), u(1)), v(st(2), u(1), u(2)), v(st(2), b(1), u(300)), v(st(2), u(1), b(1)), v(o(0)), v(o(1), u(5)), v(o(1), b(1)), v(c(5), u(5)), v(c(4), u(5)), v(c(5), b(1))}
	taken, well := 0, 0
	code := make([]api.Instr, 7)
	code[4], code[5], code[6] = api.Instr{Op: 20}, api.Instr{Op: 36}, api.Instr{Op: 20}
	n := len(alphabet)
	for script := range n * n * n * n {
		for left, k := script, 0; k < 4; k++ {
			code[k] = alphabet[left%n]
			left /= n
		}
		p := api.Program{Encodes: true, Code: code, Entry: []int{5, 0}}
		if sound.Verify(p) != ok {
			continue
		}
		taken++
		for _, l := range values {
			caps := func(length int) []int {
				if taken%2 == 0 {
					return []int{max(length-1, 0)}
				}
				return []int{math.MaxInt}
			}
			if asModelUnder(t, p, 1, l, caps).fault == ok {
				well++
			}
		}
	}
	if taken < 3000 || well < 6000 {
		t.Errorf("only %d small programs were taken, %d values went well", taken, well)
	}
}
