package flow_test

import "testing"

// graphRow: a program, what is reached, and what begins a block.
type graphRow struct{ text, reached, blocks string }

func graphRows(t *testing.T, encodes bool, rows []graphRow) {
	t.Helper()
	for _, r := range rows {
		p := written(encodes, r.text)
		reachIs(t, p, numbersOf(r.reached)...)
		blocksAre(t, p, numbersOf(r.blocks)...)
		if modelAll(t, p) != ok {
			t.Errorf("the test's program is refused: %s", brief(p))
		}
	}
}

// P18.3, P18.4: of the decoder.
func TestGraphsOfDecoder(t *testing.T) {
	graphRows(t, false, []graphRow{
		// A straight run.
		{"bool -1; ret | 0", "0 1", "0"},
		{"struct; uint 0 1; uints 1 2 4; varint 3; ret | 0", "0 1 2 3 4", "0"},
		// Entries: at an instruction that a run would go on with, twice the same, the last instruction but one.
		{"bool -1; ret; bool -1; ret | 0 2", "0 1 2 3", "0 2"},
		{"bool -1; ret | 0 0", "0 1", "0"},
		{"jump 1; bool -1; ret | 0 1", "0 1 2", "0 1"},
		{"jump 1; bool -1; ret | 0", "0 1 2", "0"},
		// Code that no entry leads to: ahead, between, behind; what leads out of it counts nowhere.
		{"ret; bool -1; ret | 1", "1 2", "1"},
		{"jump 2; ret; bool -1; ret | 0", "0 2 3", "0 2"},
		{"bool -1; ret; jump 1; ret | 0", "0 1", "0"},
		{"struct; uint 0 1; uint 1 1; ret; jump 2; option 1; bool 0 | 0", "0 1 2 3", "0"},
		{"seq; bool -1; jump 4; bool -1; ret; bool -1; ret | 0", "0 1 2 4", "0 4"},
		{"jump 4; option 2; ret; seq; bool -1; ret | 0", "0 4 5", "0 4"},
		// Behind an instruction that is not reached: an entry, a target.
		{"bool -1; ret; bool -1; bool -1; ret | 3 0", "0 1 3 4", "0 3"},
		// A branch: to the one behind the next, far on, back.
		{"option 2; bool 0; ret | 0", "0 1 2", "0 1 2"},
		{"seq; bool -1; less 3 1; ret | 0", "0 1 2 3", "0 1 3"},
		{"seq; item 3 4; bool -1; jump 1; ret | 0", "0 1 2 3 4", "0 1 2 4"},
		// A branch whose target is the next instruction has that alone.
		{"seq; less 3 2; ret | 0", "0 1 2", "0"},
		{"seq; first 3 2; ret | 0", "0 1 2", "0"},
		{"seq; item 3 2; item 9 3; ret | 0", "0 1 2 3", "0"},
		// Jumps: to the next one, over one, back, two to one.
		{"seq; jump 2; ret | 0", "0 1 2", "0"},
		{"seq; jump 3; ret; ret | 0", "0 1 3", "0 3"},
		{"jump 3; bool -1; ret; jump 1 | 0", "0 1 2 3", "0 1 3"},
		{"bool -1; jump 5; bool -1; jump 5; ret; ret | 0 2", "0 1 2 3 5", "0 2 5"},
		// Arms: one alone goes on with its union; of two each begins one.
		{"union 1; arm 7 2; bool 0; ret | 0", "0 1 2 3", "0"},
		{"union 1; arm 7 3; ret; bool 0; ret | 0", "0 1 3 4", "0 3"},
		{"union 2; arm 7 3; arm 9 3; bool 0; ret | 0", "0 1 2 3 4", "0 1 2 3"},
		{"union 2; arm 7 3; arm 9 5; bool 0; ret; uint 0 1; ret | 0", "0 1 2 3 4 5 6", "0 1 2 3 5"},
		{"union 2; arm 7 5; arm 9 3; bool 0; ret; uint 0 1; jump 4 | 0", "0 1 2 3 4 5 6", "0 1 2 4 5"},
		{"union 3; arm 7 4; arm 9 4; arm 8 4; bool 0; ret | 0", "0 1 2 3 4 5", "0 1 2 3 4"},
		// An arm that belongs to no union is never come to.
		{"bool -1; ret; arm 7 1; arm 8 1 | 0", "0 1", "0"},
		// A call's routine is reached as an entry alone; the call goes on with the next.
		{"bool -1; ret; struct; call 0 0; call 1 0; ret | 0 2", "0 1 2 3 4 5", "0 2"},
		// The routine of a list of variable items.
		{"varint -1; ret; seq; first 9 11; jump 6; offset 4; slots 5; jump 10; part -1 -1 0; tail -1; parts 8; ret | 0 2", "0 1 2 3 4 5 6 7 8 9 10 11", "0 2 4 5 6 7 8 10 11"},
	})
}

// P18.3, P18.4: of the encoder.
func TestGraphsOfEncoder(t *testing.T) {
	graphRows(t, true, []graphRow{
		{"leb; ret | 0", "0 1", "0"},
		{"fields 3; room 6; number 0 1; slot 1; leb; flag 5; ret | 0", "0 1 2 3 4 5 6", "0"},
		{"many 3; number -1 1; again 1; ret | 0", "0 1 2 3", "0 1 3"},
		{"upto 9; room -1; jump 5; slot -1; number -1 1; again 3; ret | 0", "0 1 2 3 4 5 6", "0 3 5 6"},
		{"leb; ret; maybe 4; append 0; ret | 0 2", "0 1 2 3 4", "0 2 3 4"},
		{"choice 1; arm 7 2; leb; ret | 0", "0 1 2 3", "0"},
		{"choice 2; arm 7 3; arm 9 5; leb; ret; flag 1; ret | 0", "0 1 2 3 4 5 6", "0 1 2 3 5"},
		{"leb; ret; ret; jump 1; again 0; maybe 1 | 0", "0 1", "0"},
		{"jump 2; leb; leb; ret | 0", "0 2 3", "0 2"},
	})
}

// P18.3, P18.4: unions and choices of the most arms.
func TestGraphsOfArms(t *testing.T) {
	for _, encodes := range []bool{false, true} {
		for _, arms := range []int{1, 2, 64} {
			p := chosen(encodes, arms, func(arm int) int { return 1 + arms + 2*arm })
			want, all := []int{0}, []int{0}
			for arm := range arms {
				all = append(all, 1+arm)
				if arms > 1 {
					want = append(want, 1+arm)
				}
			}
			for arm := range arms {
				all = append(all, 1+arms+2*arm, 2+arms+2*arm)
				if arms > 1 {
					want = append(want, 1+arms+2*arm)
				}
			}
			reachIs(t, p, all...)
			blocksAre(t, p, want...)
			modelAll(t, p)
			// All lead to the first one: the other ones' code is not reached.
			p = chosen(encodes, arms, func(arm int) int { return 1 + arms })
			reachIs(t, p, all[:3+arms]...)
			want = want[:min(len(want), 2+arms)]
			blocksAre(t, p, want...)
			modelAll(t, p)
		}
	}
}

// P18.3: the types' routines are reached by their entries, each by its own.
func TestEntriesReach(t *testing.T) {
	p := written(false, "bool -1; ret; varint -1; ret; uint -1 1; ret; seq; ret | 0 2 4 6")
	for set := range 16 {
		var want, blocks []int
		q := p
		q.Entry = nil
		for k, entry := range p.Entry {
			if set&(1<<k) != 0 {
				q.Entry = append(q.Entry, entry)
				want = append(want, entry, entry+1)
				blocks = append(blocks, entry)
			}
		}
		reachIs(t, q, want...)
		blocksAre(t, q, blocks...)
		modelAll(t, q)
	}
}
