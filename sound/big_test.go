package sound_test

import (
	"slices"
	"testing"

	"mortise/api"
	"mortise/sound"
)

// jumps: n of them, each to where to says.
func jumps(n int, to func(at int) int) []api.Instr {
	out := make([]api.Instr, n)
	for at := range out {
		out[at] = api.Instr{Op: 19, B: to(at)}
	}
	return out
}

// bigIs holds Verify alone against a fault: the shapes of so long a program are asked of few.
func bigIs(t *testing.T, name string, p api.Program, want api.Fault) {
	t.Helper()
	if f := sound.Verify(p); f != want {
		t.Errorf("P15.2: %s: %v, want %v", name, f, want)
	}
}

// P15.1: the calls end soon at programs of MaxCode instructions and types, however they lead to one another.
func TestBigPrograms(t *testing.T) {
	const n = api.MaxCode
	uint := api.Instr{Op: 1, A: -1, B: 1}
	ret := api.Instr{Op: 20}
	forward := jumps(n, func(at int) int { return min(at+1, n-1) })
	forward[n-2], forward[n-1] = uint, ret
	bigIs(t, "jumps forward", api.Program{Code: forward, Entry: []int{0}}, ok)

	backward := jumps(n, func(at int) int { return max(at-1, 0) })
	backward[0], backward[1] = uint, ret
	backward[2].B = 0
	bigIs(t, "jumps backward", api.Program{Code: backward, Entry: []int{n - 1}}, ok)

	// To and fro: from the front to the back, and one further on.
	half := n / 2
	fro := jumps(n, func(at int) int {
		if at < half {
			return at + half
		}
		return min(at-half+1, n-1)
	})
	fro[n-2], fro[n-1] = uint, ret
	fro[half-2].B = n - 2
	bigIs(t, "jumps to and fro", api.Program{Code: fro, Entry: []int{0}}, ok)

	// Every type shares the same long routine, by its own entry or the same one.
	own, same := make([]int, n), make([]int, n)
	for k := range own {
		own[k] = n - 2 - min(k, n-2)
	}
	bigIs(t, "each type enters a jump further ahead", api.Program{Code: forward, Entry: own}, ok)
	bigIs(t, "all types enter at one", api.Program{Code: forward, Entry: same}, ok)

	ring := slices.Clone(forward)
	ring[n-3].B = half
	bigIs(t, "a ring behind a long way", api.Program{Code: ring, Entry: []int{0}}, bad(half))
	ring[half].B = half
	bigIs(t, "a ring of one behind a long way", api.Program{Code: ring, Entry: []int{0}}, bad(half))
	ring[0].B = 0
	bigIs(t, "types ahead of the one with a ring", api.Program{Code: ring, Entry: append(slices.Repeat([]int{n - 2}, n-1), 1)}, bad(half))
}

// P15.1: a ring that leads to another one by a long way at lesser numbers, which is in none.
func TestBigRings(t *testing.T) {
	const n = api.MaxCode
	code := jumps(n, func(at int) int { return min(at+1, n-1) })
	code[0] = api.Instr{Op: 5}
	code[1].B = n - 3
	code[n-6].B = n - 6
	code[n-3] = api.Instr{Op: 14, A: 9, B: 2}
	code[n-2].B = n - 3
	bigIs(t, "two rings", api.Program{Code: code, Entry: []int{0}}, bad(n-6))
	code[n-6] = api.Instr{Op: 20}
	bigIs(t, "one ring", api.Program{Code: code, Entry: []int{0}}, bad(n-3))
	code[n-2] = api.Instr{Op: 20}
	bigIs(t, "no ring", api.Program{Code: code, Entry: []int{0}}, ok)
}

// P15.1: many calls of types that pay, and of such that don't.
func TestBigCalls(t *testing.T) {
	const n = api.MaxCode / 4
	// Type 0 is a seq that nothing is read into; each other one is an option of the type ahead, or of type 0.
	p := api.Program{Code: []api.Instr{{Op: 5}, {Op: 20}}, Entry: []int{0}}
	q := api.Program{Code: []api.Instr{{Op: 1, A: -1, B: 1}, {Op: 20}}, Entry: []int{0}}
	for k := 1; k < n; k++ {
		at := len(p.Code)
		p.Entry = append(p.Entry, at)
		p.Code = append(p.Code, api.Instr{Op: 7, B: at + 2}, api.Instr{Op: 16, C: (k - 1) * (k % 2)}, api.Instr{Op: 20})
		at = len(q.Code)
		q.Entry = append(q.Entry, at)
		q.Code = append(q.Code, api.Instr{Op: 16, A: -1, C: k - 1}, api.Instr{Op: 20})
	}
	bigIs(t, "options of options", p, ok)
	bigIs(t, "calls of calls", q, ok)
	q.Code[0] = api.Instr{Op: 5}
	bigIs(t, "calls of calls of a type that doesn't pay", q, bad(2))
	// A sequence of calls, each of a type that doesn't pay, behind a number each, or the last one behind nothing.
	r := api.Program{Code: []api.Instr{{Op: 5}, {Op: 20}, {Op: 5}}, Entry: []int{0, 2}}
	for range n / 2 {
		r.Code = append(r.Code, api.Instr{Op: 13, A: 9, B: 1}, api.Instr{Op: 1, A: -1, B: 1}, api.Instr{Op: 13, A: 9, B: 1}, api.Instr{Op: 16, A: -1})
	}
	r.Code = append(r.Code, api.Instr{Op: 20})
	bigIs(t, "calls behind numbers", r, ok)
	last := len(r.Code) - 2
	r.Code[last-2] = api.Instr{Op: 19, B: last - 1}
	bigIs(t, "a call behind a call", r, bad(last))
}
