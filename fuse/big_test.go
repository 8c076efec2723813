package fuse_test

import (
	"slices"
	"testing"

	"mortise/api"
	"mortise/code"
	"mortise/fuse"
)

// P19.1, P19.2: as many numbers as there may be, in one row that nothing cuts but their number.
func TestLongestRow(t *testing.T) {
	const n = api.MaxCode
	p := api.Program{Encodes: true, Code: make([]api.Instr, n)}
	for at := range p.Code {
		p.Code[at] = api.Instr{Op: 33, A: 8 * at, B: 8}
	}
	// Places behind MaxSize have no form: the row begins anew in the midst.
	for at := n / 2; at < n; at++ {
		p.Code[at].A = at - n/2
		p.Code[at].B = 1
	}
	want := api.Program{Encodes: true}
	for at := 0; at < n; at += 64 {
		i := p.Code[at]
		want.Code = append(want.Code, api.Instr{Op: 34, A: i.A, B: 64, C: i.B})
	}
	fuseIs(t, p, want)
	fuseIs(t, want, want)
	splitIs(t, want, p)
	splitIs(t, p, p)
}

// P19.1, P19.2: as many marks as there may be: no run has two.
func TestAllMarked(t *testing.T) {
	const n = api.MaxCode
	p := api.Program{Code: make([]api.Instr, n)}
	for at := range p.Code {
		p.Code[at] = api.Instr{Op: 1, A: at % 64, B: 2}
		if at >= n/2 {
			p.Code[at] = api.Instr{Op: 19, B: at - n/2}
		}
	}
	fuseIs(t, p, p)
	splitIs(t, p, p)
	// Each other one is a mark.
	for at := n / 2; at < n; at++ {
		p.Code[at].B = (at - n/2) / 2 * 2
	}
	q, f := fuse.Fuse(p)
	if f != ok || len(q.Code) != n/2+n/4 {
		t.Fatalf("P19.2: Fuse of runs of two: %v, %d instructions", f, len(q.Code))
	}
	for at, i := range q.Code {
		want := api.Instr{Op: 2, A: 2 * at % 64, B: 2, C: 2}
		if at >= n/4 {
			want = api.Instr{Op: 19, B: (at - n/4) / 2}
		}
		if i != want {
			t.Fatalf("P19.2: Fuse of runs of two: at %d %v, want %v", at, i, want)
		}
	}
	splitIs(t, q, p)
}

// P19.1, P19.7: as many types as there may be, behind runs and between them.
func TestAllTypes(t *testing.T) {
	const n = api.MaxCode
	p := api.Program{Entry: make([]int, n)}
	routine := written(false, "struct; uint 0 1; uint 1 1; uint 2 1; ret").Code
	for len(p.Code)+len(routine) <= n {
		p.Code = append(p.Code, routine...)
	}
	for at := range p.Entry {
		p.Entry[at] = at % (len(p.Code) / 5) * 5
	}
	want := api.Program{Code: slices.Repeat(written(false, "struct; uints 0 3 1; ret").Code, len(p.Code)/5), Entry: make([]int, n)}
	for at := range want.Entry {
		want.Entry[at] = p.Entry[at] / 5 * 3
	}
	fuseIs(t, p, want)
	splitIs(t, want, p)
	if q, f := fuse.Fuse(want); f != ok || !code.Equal(q, want) {
		t.Errorf("P19.5: Fuse of Fuse of all types: %v", f)
	}
}
