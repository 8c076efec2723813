package prune_test

import (
	"slices"
	"testing"

	"mortise/api"
)

// both holds both calls against one program.
func both(t *testing.T, p, want api.Program) {
	t.Helper()
	pruneIs(t, p, want)
	optimiseIs(t, p, want)
}

// P20.1, P20.2: as many instructions as there may be: all are reached; of those without a type none is.
func TestLongestWhole(t *testing.T) {
	const n = api.MaxCode
	p := api.Program{Code: slices.Repeat([]api.Instr{{Op: 13, A: 9, B: n - 1}}, n), Entry: []int{0}}
	p.Code[0], p.Code[n-1] = api.Instr{Op: 5}, api.Instr{Op: 20}
	for at := 2; at < n-2; at += 2 {
		p.Code[at] = api.Instr{Op: 3, A: -1}
	}
	both(t, p, p)
	p.Entry = nil
	both(t, p, api.Program{})
}

// P20.1, P20.2: each other routine goes, from the first on, and from the second on.
func TestEachOther(t *testing.T) {
	const n = api.MaxCode
	routine := written(false, "option 2; bool 0; ret").Code
	for _, from := range []int{0, 1} {
		var p, want api.Program
		for k := 0; len(p.Code)+3 <= n; k++ {
			if k%2 == from {
				p.Entry = append(p.Entry, len(p.Code))
				want.Entry = append(want.Entry, len(want.Code))
				for _, i := range routine {
					if i.Op == 7 {
						i.B = len(want.Code) + 2
					}
					want.Code = append(want.Code, i)
				}
			}
			for _, i := range routine {
				if i.Op == 7 {
					i.B = len(p.Code) + 2
				}
				p.Code = append(p.Code, i)
			}
		}
		slices.Reverse(p.Entry)
		slices.Reverse(want.Entry)
		both(t, p, want)
	}
}

// P20.1, P20.3: chains of jumps of the greatest length, forward and backward, with as many types as instructions; a ring of that length.
func TestLongestChains(t *testing.T) {
	const n = api.MaxCode
	leaf := written(true, "leb; ret | 0")
	p := api.Program{Encodes: true, Code: make([]api.Instr, n), Entry: []int{0}}
	for at := range p.Code {
		p.Code[at] = api.Instr{Op: 19, B: at + 1}
	}
	copy(p.Code[n-2:], leaf.Code)
	pruneIs(t, p, p)
	optimiseIs(t, p, leaf)
	p.Entry = make([]int, n)
	for at := range p.Entry {
		p.Entry[at] = min(at, n-2)
	}
	pruneIs(t, p, p)
	optimiseIs(t, p, api.Program{Encodes: true, Code: leaf.Code, Entry: make([]int, n)})

	for at := range p.Code {
		p.Code[at] = api.Instr{Op: 19, B: at - 1}
	}
	copy(p.Code, leaf.Code)
	p.Code[2].B = 0
	p.Entry = []int{n - 1}
	pruneIs(t, p, p)
	optimiseIs(t, p, leaf)

	p.Code[2].B = n - 1
	p.Entry = []int{0}
	both(t, p, leaf)
}

// P20.1, P20.3: runs all over, and what isn't reached leads into each of them: a second round makes them one.
func TestLongestAgain(t *testing.T) {
	const n = api.MaxCode
	single := written(false, "struct; uint 0 1; uint 1 1; uint 2 1; uint 3 1; ret").Code
	var p, pruned, best api.Program
	for k := 0; len(p.Code)+9 <= n; k++ {
		from := len(p.Code)
		p.Entry, pruned.Entry, best.Entry = append(p.Entry, from), append(pruned.Entry, len(pruned.Code)), append(best.Entry, len(best.Code))
		p.Code = append(p.Code, single...)
		for _, to := range []int{2, 3, 4} {
			p.Code = append(p.Code, api.Instr{Op: 19, B: from + to})
		}
		pruned.Code = append(pruned.Code, single...)
		best.Code = append(best.Code, api.Instr{Op: 6}, api.Instr{Op: 2, A: 0, B: 4, C: 1}, api.Instr{Op: 20})
	}
	pruneIs(t, p, pruned)
	optimiseIs(t, p, best)
	optimiseIs(t, best, best)
}

// P20.1, P20.2: unions of the most arms that aren't reached, between such as are.
func TestLongestArms(t *testing.T) {
	const n = api.MaxCode
	union := func(p *api.Program) {
		from := len(p.Code)
		p.Code = append(p.Code, api.Instr{Op: 8, A: 64})
		for tag := range 64 {
			p.Code = append(p.Code, api.Instr{Op: 9, A: tag, B: from + 65})
		}
		p.Code = append(p.Code, api.Instr{Op: 3}, api.Instr{Op: 20})
	}
	var p, want api.Program
	for len(p.Code)+2*67 <= n {
		union(&p)
		p.Entry = append(p.Entry, len(p.Code))
		union(&p)
		want.Entry = append(want.Entry, len(want.Code))
		union(&want)
	}
	both(t, p, want)
}
