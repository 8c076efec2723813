package fuse_test

import (
	"slices"
	"testing"

	"mortise/api"
	"mortise/code"
	"mortise/fuse"
	"mortise/sound"
)

// fieldList: the chapter's word 'a number instruction', its kids or places one by one, and their width; none of another one.
func fieldList(i api.Instr) (list []int, width int) {
	switch nameOf(i.Op) {
	case "uint", "number":
		if i.A >= 0 {
			return []int{i.A}, i.B
		}
	case "uints":
		for k := range i.B {
			list = append(list, i.A+k)
		}
		return list, i.C
	case "numbers":
		for k := range i.B {
			list = append(list, i.A+k*i.C)
		}
		return list, i.C
	}
	return nil, 0
}

// goesOn: the chapter's word: one instruction on the one ahead of it.
func goesOn(encodes bool, ahead, i api.Instr) bool {
	first, width := fieldList(ahead)
	next, same := fieldList(i)
	if len(first) == 0 || len(next) == 0 || width != same {
		return false
	}
	behind := first[len(first)-1] + 1
	if encodes {
		behind = first[len(first)-1] + width
	}
	return next[0] == behind
}

// oneOf: an instruction with all the fields of a row.
func oneOf(encodes bool, row []api.Instr) api.Instr {
	first, width := fieldList(row[0])
	many := 0
	for _, i := range row {
		l, _ := fieldList(i)
		many += len(l)
	}
	op := 2
	if encodes {
		op = 34
	}
	return api.Instr{Op: op, A: first[0], B: many, C: width}
}

// marksOf: the chapter's word 'a mark', of each instruction.
func marksOf(p api.Program) []bool {
	out := make([]bool, len(p.Code))
	for _, i := range p.Code {
		if targeted(i.Op) {
			out[i.B] = true
		}
	}
	for _, entry := range p.Entry {
		out[entry] = true
	}
	return out
}

// isRun: the chapter's word 'a run', of a row of at least two.
func isRun(p api.Program, row []api.Instr, marks []bool) bool {
	if slices.Contains(marks[1:], true) {
		return false
	}
	for k := 1; k < len(row); k++ {
		if !goesOn(p.Encodes, row[k-1], row[k]) {
			return false
		}
	}
	one := api.Program{Encodes: p.Encodes, Code: []api.Instr{oneOf(p.Encodes, row)}}
	return code.Check(one) == ok
}

// moved: the chapter's word: now tells of an old number the new one.
func moved(p api.Program, code []api.Instr, now func(old int) int) api.Program {
	q := api.Program{Encodes: p.Encodes, Code: slices.Clone(code)}
	for at, i := range code {
		if targeted(i.Op) {
			q.Code[at].B = now(i.B)
		}
	}
	for _, entry := range p.Entry {
		q.Entry = append(q.Entry, now(entry))
	}
	return q
}

// fuseOf: P19.2, word by word.
func fuseOf(p api.Program) api.Program {
	marks := marksOf(p)
	var l []api.Instr
	now := map[int]int{}
	for at := 0; at < len(p.Code); {
		now[at] = len(l)
		end := at + 1
		for end < len(p.Code) && isRun(p, p.Code[at:end+1], marks[at:end+1]) {
			end++
		}
		one := p.Code[at]
		if end > at+1 {
			one = oneOf(p.Encodes, p.Code[at:end])
		}
		l = append(l, one)
		at = end
	}
	return moved(p, l, func(old int) int {
		n, is := now[old]
		if !is {
			panic("a target inside a run")
		}
		return n
	})
}

// splitOf: P19.3, word by word.
func splitOf(p api.Program) (api.Program, api.Fault) {
	var l []api.Instr
	now := make([]int, len(p.Code))
	for at, i := range p.Code {
		now[at] = len(l)
		fields, width := fieldList(i)
		if len(fields) < 2 {
			l = append(l, i)
			continue
		}
		for _, f := range fields {
			l = append(l, api.Instr{Op: i.Op - 1, A: f, B: width})
		}
	}
	if len(l) > api.MaxCode {
		return api.Program{}, api.Fault{Err: api.ErrLong}
	}
	return moved(p, l, func(old int) int { return now[old] }), ok
}

// isZero: no field of it has anything.
func isZero(p api.Program) bool { return !p.Encodes && p.Code == nil && p.Entry == nil }

// faultIs holds both calls against a program that is not taken.
func faultIs(t *testing.T, p api.Program, want api.Fault) {
	t.Helper()
	if q, f := fuse.Fuse(p); f != want || !isZero(q) {
		t.Fatalf("P19.2: Fuse(%s) = %s, %v, want %v", brief(p), brief(q), f, want)
	}
	if q, f := fuse.Split(p); f != want || !isZero(q) {
		t.Fatalf("P19.3: Split(%s) = %s, %v, want %v", brief(p), brief(q), f, want)
	}
}

// fuseIs holds Fuse against a program.
func fuseIs(t *testing.T, p, want api.Program) {
	t.Helper()
	if q, f := fuse.Fuse(p); f != ok || !code.Equal(q, want) {
		t.Fatalf("P19.2: Fuse(%s) = %s, %v, want %s", brief(p), brief(q), f, brief(want))
	}
}

// splitIs holds Split against a program.
func splitIs(t *testing.T, p, want api.Program) {
	t.Helper()
	if q, f := fuse.Split(p); f != ok || !code.Equal(q, want) {
		t.Fatalf("P19.3: Split(%s) = %s, %v, want %s", brief(p), brief(q), f, brief(want))
	}
}

// modelAll holds both calls against the model, or against sound.Verify's fault; the fault.
func modelAll(t *testing.T, p api.Program) api.Fault {
	t.Helper()
	if f := sound.Verify(p); f != ok {
		faultIs(t, p, f)
		return f
	}
	fuseIs(t, p, fuseOf(p))
	want, f := splitOf(p)
	if f != ok {
		t.Fatalf("the test's program is too long: %d", len(p.Code))
	}
	splitIs(t, p, want)
	return ok
}

// rows: of each a program, its text being followed by those of what Fuse and Split answer of it.
func rows(t *testing.T, encodes bool, l [][3]string) {
	t.Helper()
	for _, r := range l {
		p, fused, split := written(encodes, r[0]), written(encodes, r[1]), written(encodes, r[2])
		if f := modelAll(t, p); f != ok {
			t.Errorf("the test's program is refused: %s: %v", brief(p), f)
			continue
		}
		fuseIs(t, p, fused)
		splitIs(t, p, split)
		fuseIs(t, fused, fused)
		splitIs(t, split, split)
		splitIs(t, fused, split)
		follows(t, p)
	}
}
