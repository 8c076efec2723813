package prune_test

import (
	"slices"
	"testing"

	"mortise/api"
	"mortise/code"
	"mortise/prune"
	"mortise/sound"
)

// successorsOf: chapter 18's word 'the successors'.
func successorsOf(p api.Program, at int) (out []int) {
	i := p.Code[at]
	switch nameOf(i.Op) {
	case "ret":
	case "jump", "arm":
		out = []int{i.B}
	case "union", "choice":
		for k := 1; k <= i.A; k++ {
			out = append(out, at+k)
		}
	case "option", "first", "slots", "item", "less", "parts", "maybe", "again":
		out = []int{at + 1, i.B}
	default:
		out = []int{at + 1}
	}
	return slices.DeleteFunc(out, func(n int) bool { return n < 0 || n >= len(p.Code) })
}

// reachedOf: chapter 18's word 'reached': entries, and what is added till nothing more is.
func reachedOf(p api.Program) []bool {
	out := make([]bool, len(p.Code))
	for _, entry := range p.Entry {
		out[entry] = true
	}
	for grown := true; grown; {
		grown = false
		for at := range p.Code {
			if !out[at] {
				continue
			}
			for _, to := range successorsOf(p, at) {
				grown = grown || !out[to]
				out[to] = true
			}
		}
	}
	return out
}

// withNumbers: a program of some code with the entries of another, in which each number of an instruction is what now tells of it.
func withNumbers(p api.Program, code []api.Instr, now func(old int) int) api.Program {
	q := api.Program{Encodes: p.Encodes, Code: slices.Clone(code)}
	for at, i := range code {
		if targeted(i.Op) {
			q.Code[at].B = now(i.B)
		}
	}
	for _, entry := range p.Entry {
		q.Entry = append(q.Entry, now(entry))
	}
	return q
}

// pruneOf: P20.2, word by word.
func pruneOf(p api.Program) api.Program {
	reached := reachedOf(p)
	var stay []int
	var l []api.Instr
	for at, i := range p.Code {
		if reached[at] {
			stay = append(stay, at)
			l = append(l, i)
		}
	}
	return withNumbers(p, l, func(old int) int {
		now := slices.Index(stay, old)
		if now < 0 {
			panic("what is reached leads to what isn't")
		}
		return now
	})
}

// endOf: chapter 18's word 'the end of a target'. As many jumps as there are instructions, and one more, go round in a ring.
func endOf(p api.Program, k int) int {
	at := k
	for range len(p.Code) + 1 {
		if nameOf(p.Code[at].Op) != "jump" {
			return at
		}
		at = p.Code[at].B
	}
	return k
}

// threadOf: P18.5, word by word.
func threadOf(p api.Program) api.Program {
	return withNumbers(p, p.Code, func(old int) int { return endOf(p, old) })
}

// fieldList: chapter 19's word 'a number instruction', its kids or places one by one, and their width; none of another one.
func fieldList(i api.Instr) (list []int, width int) {
	switch nameOf(i.Op) {
	case "uint", "number":
		if i.A >= 0 {
			return []int{i.A}, i.B
		}
	case "uints":
		for k := range i.B {
			list = append(list, i.A+k)
		}
		return list, i.C
	case "numbers":
		for k := range i.B {
			list = append(list, i.A+k*i.C)
		}
		return list, i.C
	}
	return nil, 0
}

// oneOf: an instruction with all the fields of a row, and whether they are one behind the other, all of one width.
func oneOf(encodes bool, row []api.Instr) (one api.Instr, goOn bool) {
	op, apart := 2, 1
	first, width := fieldList(row[0])
	if encodes {
		op, apart = 34, width
	}
	many := 0
	for _, i := range row {
		l, w := fieldList(i)
		if len(l) == 0 || w != width || l[0] != first[0]+many*apart {
			return api.Instr{}, false
		}
		many += len(l)
	}
	return api.Instr{Op: op, A: first[0], B: many, C: width}, true
}

// isRun: chapter 19's word 'a run', of a row of at least two.
func isRun(p api.Program, row []api.Instr, marks []bool) bool {
	one, goOn := oneOf(p.Encodes, row)
	return goOn && !slices.Contains(marks[1:], true) && code.Check(api.Program{Encodes: p.Encodes, Code: []api.Instr{one}}) == ok
}

// marksOf: chapter 19's word 'a mark', of each instruction.
func marksOf(p api.Program) []bool {
	out := make([]bool, len(p.Code))
	for _, i := range p.Code {
		if targeted(i.Op) {
			out[i.B] = true
		}
	}
	for _, entry := range p.Entry {
		out[entry] = true
	}
	return out
}

// fuseOf: P19.2, word by word.
func fuseOf(p api.Program) api.Program {
	marks := marksOf(p)
	var l []api.Instr
	now := make([]int, len(p.Code))
	for at := 0; at < len(p.Code); {
		now[at] = len(l)
		end := at + 1
		for end < len(p.Code) && isRun(p, p.Code[at:end+1], marks[at:end+1]) {
			end++
		}
		one := p.Code[at]
		if end > at+1 {
			one, _ = oneOf(p.Encodes, p.Code[at:end])
		}
		l = append(l, one)
		at = end
	}
	return withNumbers(p, l, func(old int) int { return now[old] })
}

// optimiseOf: P20.3, word by word; and how many rounds changed something.
func optimiseOf(p api.Program) (q api.Program, rounds int) {
	for {
		q = pruneOf(fuseOf(threadOf(p)))
		if code.Equal(p, q) {
			return q, rounds
		}
		p = q
		rounds++
	}
}

// isZero: no field of it has anything.
func isZero(p api.Program) bool { return !p.Encodes && p.Code == nil && p.Entry == nil }

// faultIs holds both calls against a program that is not taken.
func faultIs(t *testing.T, p api.Program, want api.Fault) {
	t.Helper()
	if q, f := prune.Prune(p); f != want || !isZero(q) {
		t.Fatalf("P20.2: Prune(%s) = %s, %v, want %v", brief(p), brief(q), f, want)
	}
	if q, f := prune.Optimise(p); f != want || !isZero(q) {
		t.Fatalf("P20.3: Optimise(%s) = %s, %v, want %v", brief(p), brief(q), f, want)
	}
}

// pruneIs holds Prune against a program.
func pruneIs(t *testing.T, p, want api.Program) {
	t.Helper()
	if q, f := prune.Prune(p); f != ok || !code.Equal(q, want) {
		t.Fatalf("P20.2: Prune(%s) = %s, %v, want %s", brief(p), brief(q), f, brief(want))
	}
}

// optimiseIs holds Optimise against a program.
func optimiseIs(t *testing.T, p, want api.Program) {
	t.Helper()
	if q, f := prune.Optimise(p); f != ok || !code.Equal(q, want) {
		t.Fatalf("P20.3: Optimise(%s) = %s, %v, want %s", brief(p), brief(q), f, brief(want))
	}
}

// modelAll holds both calls against the model, or against sound.Verify's fault; the fault.
func modelAll(t *testing.T, p api.Program) api.Fault {
	t.Helper()
	if f := sound.Verify(p); f != ok {
		faultIs(t, p, f)
		return f
	}
	pruneIs(t, p, pruneOf(p))
	want, _ := optimiseOf(p)
	optimiseIs(t, p, want)
	return ok
}

// rows: of each a program's text, and those of what Prune and Optimise answer of it.
func rows(t *testing.T, encodes bool, l [][3]string) {
	t.Helper()
	for _, r := range l {
		p, pruned, best := written(encodes, r[0]), written(encodes, r[1]), written(encodes, r[2])
		if f := modelAll(t, p); f != ok {
			t.Errorf("the test's program is refused: %s: %v", brief(p), f)
			continue
		}
		pruneIs(t, p, pruned)
		optimiseIs(t, p, best)
		pruneIs(t, pruned, pruned)
		optimiseIs(t, pruned, best)
		optimiseIs(t, best, best)
		follows(t, p)
	}
}

// same: programs of which both calls make nothing else.
func same(t *testing.T, encodes bool, texts ...string) {
	t.Helper()
	for _, text := range texts {
		rows(t, encodes, [][3]string{{text, text, text}})
	}
}
