package flow_test

import (
	"slices"
	"testing"

	"mortise/api"
	"mortise/code"
	"mortise/flow"
)

// jumps: n of them, each to where to says.
func jumps(n int, to func(at int) int) []api.Instr {
	out := make([]api.Instr, n)
	for at := range out {
		out[at] = api.Instr{Op: 19, B: to(at)}
	}
	return out
}

// bigIs holds a program of very many instructions against where all its jumps are to lead, and its entries, by one number each; jumps below kept stay as they are.
func bigIs(t *testing.T, name string, p api.Program, end, kept int) {
	t.Helper()
	want := cloned(p)
	for at := range want.Code {
		if want.Code[at].Op == 19 && at >= kept {
			want.Code[at].B = end
		}
	}
	for at := range want.Entry {
		want.Entry[at] = end
	}
	q, f := flow.Thread(p)
	if f != ok || !code.Equal(q, want) {
		t.Fatalf("P18.5: Thread of %s: %v, or other targets", name, f)
	}
	if again, f := flow.Thread(q); f != ok || !code.Equal(again, q) {
		t.Errorf("P18.7: Thread of Thread of %s: %v, or other targets", name, f)
	}
}

// told: the number of those that are reached, and the blocks.
func told(t *testing.T, name string, p api.Program) (reached int, blocks []int) {
	t.Helper()
	l, f := flow.Reach(p)
	if f != ok || len(l) != len(p.Code) {
		t.Fatalf("P18.3: Reach of %s: %v, %d told", name, f, len(l))
	}
	for _, is := range l {
		if is {
			reached++
		}
	}
	blocks, f = flow.Blocks(p)
	if f != ok {
		t.Fatalf("P18.4: Blocks of %s: %v", name, f)
	}
	return reached, blocks
}

// P18.1, P18.5: chains of the greatest length, forward, backward, to and fro, reached and not.
func TestLongestChains(t *testing.T) {
	const n = api.MaxCode
	boolean, ret := api.Instr{Op: 3, A: -1}, api.Instr{Op: 20}
	forward := jumps(n, func(at int) int { return min(at+1, n-1) })
	forward[n-2], forward[n-1] = boolean, ret
	p := api.Program{Code: forward, Entry: []int{0, n / 2, n - 2}}
	bigIs(t, "jumps forward", p, n-2, 0)
	if reached, blocks := told(t, "jumps forward", p); reached != n || !slices.Equal(blocks, []int{0, n / 2, n - 2}) {
		t.Errorf("P18.4: jumps forward: %d are reached, blocks %v", reached, blocks)
	}
	p.Entry = []int{n - 2}
	bigIs(t, "jumps forward that no entry leads to", p, n-2, 0)
	if reached, blocks := told(t, "jumps forward that no entry leads to", p); reached != 2 || !slices.Equal(blocks, []int{n - 2}) {
		t.Errorf("P18.4: jumps forward that no entry leads to: %d are reached, blocks %v", reached, blocks)
	}

	backward := jumps(n, func(at int) int { return max(at-1, 0) })
	backward[0], backward[1] = boolean, ret
	backward[2].B = 0
	p = api.Program{Code: backward, Entry: []int{n - 1}}
	bigIs(t, "jumps backward", p, 0, 0)
	if reached, blocks := told(t, "jumps backward", p); reached != n || len(blocks) != n-1 {
		t.Errorf("P18.4: jumps backward: %d are reached, %d blocks", reached, len(blocks))
	}

	half := n / 2
	fro := jumps(n, func(at int) int {
		if at < half {
			return at + half
		}
		return min(at-half+1, n-1)
	})
	fro[n-2], fro[n-1] = boolean, ret
	fro[half-2].B, fro[half-1].B = n-2, n-2
	bigIs(t, "jumps to and fro", api.Program{Code: fro, Entry: []int{0}}, n-2, 0)

	// All types there may be, each by an entry of its own.
	own := make([]int, n)
	for at := range own {
		own[at] = min(at, n-2)
	}
	bigIs(t, "each type enters at another jump", api.Program{Code: forward, Entry: own}, n-2, 0)
	if reached, blocks := told(t, "each type enters at another jump", api.Program{Code: forward, Entry: own}); reached != n || len(blocks) != n-1 {
		t.Errorf("P18.4: each type enters at another jump: %d are reached, %d blocks", reached, len(blocks))
	}
}

// P18.1, P18.5: rings of the greatest length, and long ways into a short one: they stay.
func TestLongestRings(t *testing.T) {
	const n = api.MaxCode
	ring := jumps(n, func(at int) int { return 2 + (at-1)%(n-2) })
	ring[0], ring[1] = api.Instr{Op: 36}, api.Instr{Op: 20}
	p := api.Program{Encodes: true, Code: ring, Entry: []int{0}}
	bigIs(t, "a ring", p, 0, n)
	if reached, blocks := told(t, "a ring", p); reached != 2 || !slices.Equal(blocks, []int{0}) {
		t.Errorf("P18.4: a ring: %d are reached, blocks %v", reached, blocks)
	}
	into := jumps(n, func(at int) int { return min(at+1, n-1) })
	into[0], into[1] = api.Instr{Op: 36}, api.Instr{Op: 20}
	bigIs(t, "a way into a ring of one", api.Program{Encodes: true, Code: into, Entry: []int{0}}, 0, n)
	into[n-1].B = n / 2
	bigIs(t, "a way into a ring of half", api.Program{Encodes: true, Code: into, Entry: []int{0}}, 0, n)
	// A ring behind a chain that leads out of it all.
	half := jumps(n, func(at int) int { return max(at-1, 0) })
	half[0], half[1] = api.Instr{Op: 36}, api.Instr{Op: 20}
	half[2].B = 0
	for at := 2; at < n/2; at++ {
		half[at].B = 2 + (at-1)%(n/2-2)
	}
	half[n/2].B = 1
	want := cloned(api.Program{Encodes: true, Code: half, Entry: []int{0}})
	for at := n / 2; at < n; at++ {
		want.Code[at].B = 1
	}
	threadIs(t, api.Program{Encodes: true, Code: half, Entry: []int{0}}, want)
}

// P18.1, P18.3: straight code, branches and arms of the greatest number.
func TestLongestCode(t *testing.T) {
	const n = api.MaxCode
	p := api.Program{Code: slices.Repeat([]api.Instr{{Op: 13, A: 9, B: n - 1}}, n), Entry: []int{0}}
	p.Code[0], p.Code[n-1] = api.Instr{Op: 5}, api.Instr{Op: 20}
	for at := 2; at < n-2; at += 2 {
		p.Code[at] = api.Instr{Op: 3, A: -1}
	}
	reached, blocks := told(t, "branches", p)
	if reached != n || len(blocks) != n/2+1 || blocks[0] != 0 || blocks[1] != 2 || blocks[len(blocks)-1] != n-1 {
		t.Errorf("P18.4: branches: %d are reached, %d blocks", reached, len(blocks))
	}
	threadIs(t, p, p)
	targetsAre(t, p, 1, 2, n-1)
	targetsAre(t, p, n-2, n-1)
	targetsAre(t, p, n-1)
	nowhere(t, p, n)

	// Routines of unions of 64 arms, which all lead to one instruction.
	q := api.Program{Entry: []int{}}
	for len(q.Code)+67 <= n {
		from := len(q.Code)
		q.Entry = append(q.Entry, from)
		q.Code = append(q.Code, api.Instr{Op: 8, A: 64})
		for tag := range 64 {
			q.Code = append(q.Code, api.Instr{Op: 9, A: tag, B: from + 65})
		}
		q.Code = append(q.Code, api.Instr{Op: 3}, api.Instr{Op: 20})
	}
	reached, blocks = told(t, "unions", q)
	if reached != len(q.Code) || len(blocks) != 66*len(q.Entry) {
		t.Errorf("P18.4: unions: %d are reached, %d blocks", reached, len(blocks))
	}
	threadIs(t, q, q)
}
