package flow_test

import (
	"strconv"
	"testing"

	"mortise/api"
)

// threadRows: a program each, and what comes of it.
func threadRows(t *testing.T, encodes bool, rows [][2]string) {
	t.Helper()
	for _, r := range rows {
		p, want := written(encodes, r[0]), written(encodes, r[1])
		if modelAll(t, p) != ok {
			t.Errorf("the test's program is refused: %s", brief(p))
		}
		threadIs(t, p, want)
		threadIs(t, want, want)
	}
}

// P18.5: every instruction that has a target leads on at once, in code that is reached.
func TestThreadReached(t *testing.T) {
	threadRows(t, false, [][2]string{
		{"option 3; bool 0; ret; jump 2 | 0", "option 2; bool 0; ret; jump 2 | 0"},
		{"seq; bool -1; less 3 4; ret; jump 1 | 0", "seq; bool -1; less 3 1; ret; jump 1 | 0"},
		{"seq; item 3 5; bool -1; jump 6; ret; jump 4; jump 1 | 0", "seq; item 3 4; bool -1; jump 1; ret; jump 4; jump 1 | 0"},
		{"union 2; arm 7 7; arm 9 5; bool 0; ret; uint 0 1; ret; jump 3 | 0", "union 2; arm 7 3; arm 9 5; bool 0; ret; uint 0 1; ret; jump 3 | 0"},
		{"union 1; arm 7 4; bool 0; ret; jump 2 | 0", "union 1; arm 7 2; bool 0; ret; jump 2 | 0"},
		{
			"varint -1; ret; seq; first 9 12; jump 13; offset 4; slots 14; jump 15; part -1 -1 0; tail -1; parts 16; ret; jump 11; jump 6; jump 5; jump 10; jump 8 | 0 2",
			"varint -1; ret; seq; first 9 11; jump 6; offset 4; slots 5; jump 10; part -1 -1 0; tail -1; parts 8; ret; jump 11; jump 6; jump 5; jump 10; jump 8 | 0 2",
		},
	})
	threadRows(t, true, [][2]string{
		{"maybe 3; leb; ret; jump 2 | 0", "maybe 2; leb; ret; jump 2 | 0"},
		{"many 3; number -1 1; again 4; ret; jump 1 | 0", "many 3; number -1 1; again 1; ret; jump 1 | 0"},
		{"upto 3; jump 5; number -1 1; again 6; ret; jump 3; jump 2 | 0", "upto 3; jump 3; number -1 1; again 2; ret; jump 3; jump 2 | 0"},
		{"choice 2; arm 7 5; arm 9 3; leb; ret; jump 6; jump 3 | 0", "choice 2; arm 7 3; arm 9 3; leb; ret; jump 3; jump 3 | 0"},
		{"choice 1; arm 7 4; leb; ret; jump 2 | 0", "choice 1; arm 7 2; leb; ret; jump 2 | 0"},
	})
}

// P18.5: every instruction that has a target leads on at once where no entry leads to it, too; those that have none stay whole, whatever their operands are.
func TestThreadUnreached(t *testing.T) {
	for _, name := range []string{"option", "arm 7", "first 9", "slots", "item 9", "less 9", "parts", "jump"} {
		threadRows(t, false, [][2]string{{"bool -1; ret; " + name + " 3; jump 4; jump 5; seq | 0", "bool -1; ret; " + name + " 5; jump 5; jump 5; seq | 0"}})
	}
	for _, name := range []string{"maybe", "arm 7", "again", "jump"} {
		threadRows(t, true, [][2]string{{"leb; ret; " + name + " 3; jump 4; jump 5; leb | 0", "leb; ret; " + name + " 5; jump 5; jump 5; leb | 0"}})
	}
	// Operands that would be numbers of jumps, if they were targets.
	for _, text := range []string{"uint 1 1", "uint 1 2", "uints 1 2 1", "uints 2 2 2", "bool 1", "bool 2", "varint 2", "offset 4", "call 1 0", "part 1 1 0", "part 2 1 0", "part 1 2 0", "tail 1", "tail 2"} {
		p := "jump 3; jump 0; jump 1; bool -1; ret; " + text + "; jump 2 | 3"
		threadRows(t, false, [][2]string{{p, "jump 3; jump 3; jump 3; bool -1; ret; " + text + "; jump 3 | 3"}})
	}
	for _, text := range []string{"number 1 1", "number 2 2", "numbers 1 2 1", "numbers 2 2 2", "flag 1", "flag 2", "many 1", "upto 2", "fields 1", "room 1", "slot 2", "enter 1 0", "each 1 0", "append 0"} {
		p := "jump 3; jump 0; jump 1; leb; ret; " + text + "; jump 2 | 3"
		threadRows(t, true, [][2]string{{p, "jump 3; jump 3; jump 3; leb; ret; " + text + "; jump 3 | 3"}})
	}
}

// P18.5: a union's and choice's operand is no target; its arms' targets are.
func TestThreadArms(t *testing.T) {
	for _, encodes := range []bool{false, true} {
		for _, arms := range []int{1, 2, 3, 64} {
			behind := 1 + arms + 2*arms
			p := chosen(encodes, arms, func(arm int) int { return behind + arm })
			for arm := range arms {
				p.Code = append(p.Code, api.Instr{Op: 19, B: 1 + arms + 2*arm})
			}
			want := chosen(encodes, arms, func(arm int) int { return 1 + arms + 2*arm })
			want.Code = append(want.Code, p.Code[behind:]...)
			threadIs(t, p, want)
			modelAll(t, p)
		}
	}
}

// P18.5: rings, of one jump, two, three; and jumps that lead into them, straight or by others.
func TestRings(t *testing.T) {
	for _, encodes := range []bool{false, true} {
		text, _ := head(encodes)
		same := func(rest string) [2]string { return [2]string{text + rest + " | 0", text + rest + " | 0"} }
		threadRows(t, encodes, [][2]string{
			same("jump 2"),
			same("jump 3; jump 2"),
			same("jump 3; jump 4; jump 2"),
			same("jump 4; jump 2; jump 3"),
			same("jump 3; jump 3"),
			same("jump 2; jump 2"),
			same("jump 3; jump 4; jump 4"),
			same("jump 2; jump 2; jump 3; jump 4"),
			same("jump 3; jump 4; jump 5; jump 3"),
			same("jump 4; jump 4; jump 5; jump 6; jump 4; jump 2; jump 3"),
			same("jump 3; jump 2; jump 5; jump 4; jump 4; jump 2"),
			// Into a ring behind some that lead out of it all, and the other way about.
			{text + "jump 3; jump 4; jump 4; jump 6; jump 7; ret | 0", text + "jump 3; jump 4; jump 4; jump 7; jump 7; ret | 0"},
			{text + "jump 6; jump 2; ret; jump 5; jump 4; jump 5 | 0", text + "jump 4; jump 4; ret; jump 5; jump 4; jump 5 | 0"},
		})
		// A target that lies in a ring, or leads into one, stays what it was.
		branch := "less 9 "
		if encodes {
			branch = "again "
		}
		for to, want := range []int{0, 1, 2, 3, 4, 5, 6, 9, 9, 9} {
			rest := "; jump 4; jump 5; jump 4; jump 3; jump 9; jump 7; ret | 0"
			after := "; jump 4; jump 5; jump 4; jump 3; jump 9; jump 9; ret | 0"
			threadRows(t, encodes, [][2]string{{text + branch + strconv.Itoa(to) + rest, text + branch + strconv.Itoa(want) + after}})
		}
	}
}

// P18.5: entries that are jumps: short chains and long ones, several types by one, one that stays.
func TestThreadEntries(t *testing.T) {
	threadRows(t, false, [][2]string{
		{"jump 1; bool -1; ret | 0", "jump 1; bool -1; ret | 1"},
		{"bool -1; ret; jump 0 | 2", "bool -1; ret; jump 0 | 0"},
		{"bool -1; ret; jump 0; jump 2; jump 3 | 4 3 2 0", "bool -1; ret; jump 0; jump 0; jump 0 | 0 0 0 0"},
		{"jump 2; jump 4; varint -1; ret; bool -1; ret | 0 1 2 4 1", "jump 2; jump 4; varint -1; ret; bool -1; ret | 2 4 2 4 4"},
	})
	threadRows(t, true, [][2]string{
		{"jump 3; jump 0; jump 1; leb; ret | 2 1 0 3", "jump 3; jump 3; jump 3; leb; ret | 3 3 3 3"},
	})
}

// P18.5: chains of every small length, forward and backward, ahead of a target, an arm and an entry.
func TestChains(t *testing.T) {
	for n := range 40 {
		for _, back := range []bool{false, true} {
			p := written(false, "option 2; bool 0; ret | 0")
			p.Entry[0] = 3
			p.Code[0].B = 3 + n
			for k := range n {
				next := 3 + k + 1
				if back {
					next = 3 + k - 1
				}
				p.Code = append(p.Code, api.Instr{Op: 19, B: next})
			}
			p.Code = append(p.Code, api.Instr{Op: 19, B: 2})
			last := len(p.Code)
			p.Code = append(p.Code, api.Instr{Op: 19, B: 0})
			p.Entry[0] = last
			if back {
				p.Code[3].B = 2
			}
			want := cloned(p)
			want.Entry[0], want.Code[0].B = 0, 2
			for k := 3; k < last; k++ {
				want.Code[k].B = 2
			}
			threadIs(t, p, want)
			modelAll(t, p)
		}
	}
}
