package fuse_test

import (
	"fmt"
	"strconv"
	"testing"

	"mortise/api"
)

// targetNames: every instruction that has a target, ahead of it.
func targetNames(encodes bool) []string {
	if encodes {
		return []string{"maybe", "again", "jump", "arm 7"}
	}
	return []string{"option", "first 9", "slots", "item 9", "less 9", "parts", "jump", "arm 7"}
}

// P19.2: a target of each instruction that has one, in code that is never come to, at each place of a run: the run is cut there.
func TestTargetInside(t *testing.T) {
	for _, encodes := range []bool{false, true} {
		for _, name := range targetNames(encodes) {
			for to := range 6 {
				// The run's first instruction is number 1, the one behind it all number 6.
				before := opening(encodes, 5) + ones(encodes, 0, 5, 1) + "; ret; " + name + " " + strconv.Itoa(1+to) + " | 0"
				after := opening(encodes, 5) + several(encodes, 0, 5, 1) + "; ret; " + name + " " + strconv.Itoa(1+min(to, 1)) + " | 0"
				if to > 0 && to < 5 {
					after = opening(encodes, 5) + several(encodes, 0, to, 1) + "; " + several(encodes, to, 5-to, 1) + "; ret; " + name + " 2 | 0"
				}
				rows(t, encodes, [][3]string{{before, after, before}})
			}
		}
	}
}

// P19.2: targets in code that runs, from elsewhere, into the midst of a run and to its first.
func TestTargetThatRuns(t *testing.T) {
	one := "struct; uint 0 1; uint 1 1; uint 2 1; ret; b: struct; bool 0; jump 2 | 0 b"
	rows(t, false, [][3]string{
		{one, "struct; uint 0 1; uints 1 2 1; ret; b: struct; bool 0; jump 2 | 0 b", one},
		{
			"struct; jump b; a: ret; b: uint 0 1; uint 1 1; jump a | 0",
			"struct; jump b; a: ret; b: uints 0 2 1; jump a | 0",
			"struct; jump b; a: ret; b: uint 0 1; uint 1 1; jump a | 0",
		},
		{
			"struct; uint 0 1; jump b; a: uint 2 1; uint 3 1; ret; b: uint 1 1; jump a | 0",
			"struct; uint 0 1; jump b; a: uints 2 2 1; ret; b: uint 1 1; jump a | 0",
			"struct; uint 0 1; jump b; a: uint 2 1; uint 3 1; ret; b: uint 1 1; jump a | 0",
		},
		{
			"struct; uint 0 1; uints 1 2 1; uint 3 1; ret; b: struct; bool 0; jump 2 | 0 b",
			"struct; uint 0 1; uints 1 3 1; ret; b: struct; bool 0; jump 2 | 0 b",
			"struct; uint 0 1; uint 1 1; uint 2 1; uint 3 1; ret; b: struct; bool 0; jump 2 | 0 b",
		},
	})
	two := "fields 3; number 0 1; number 1 1; number 2 1; ret; b: fields 3; leb; jump 2 | 0 b"
	rows(t, true, [][3]string{
		{two, "fields 3; number 0 1; numbers 1 2 1; ret; b: fields 3; leb; jump 2 | 0 b", two},
		{
			"choice 2; arm 0 a; arm 9 b; c: number 0 1; a: number 1 1; ret; b: number 2 1; ret | 0",
			"choice 2; arm 0 a; arm 9 b; c: number 0 1; a: number 1 1; ret; b: number 2 1; ret | 0",
			"choice 2; arm 0 a; arm 9 b; c: number 0 1; a: number 1 1; ret; b: number 2 1; ret | 0",
		},
	})
	// An arm's targets are its own, at numbers that nothing else leads to.
	same(t, false, "union 2; arm 0 a; arm 9 b; uint 1 1; a: uint 0 1; ret; uint 0 1; b: uint 0 2; ret | 0")
	same(t, true, "choice 1; arm 0 a; number 0 1; a: number 1 1; ret | 0")
}

// P19.2: an entry inside a run: its instruction begins one.
func TestEntryInside(t *testing.T) {
	// A value that is its own node, and a field that is left, are written by the same number.
	same(t, true,
		"fields 2; number 0 1; number 1 1; ret | 0 2",
		"fields 2; number 0 1; number 1 1; ret | 2 0 2",
		"number 0 1; ret; number 0 1; number 1 1; ret | 0 3",
	)
	for n := 3; n < 10; n++ {
		before := fmt.Sprintf("fields %d; %s; ret | 0 %d", n, ones(true, 0, n, 4), n)
		after := fmt.Sprintf("fields %d; %s; number %d 4; ret | 0 2", n, several(true, 0, n-1, 4), 4*(n-1))
		rows(t, true, [][3]string{{before, after, before}})
	}
	// Entries to what lies about a run.
	one := "varint -1; ret; struct; uint 0 1; uint 1 1; ret; varint -1; ret | 0 2 6"
	rows(t, false, [][3]string{{one, "varint -1; ret; struct; uints 0 2 1; ret; varint -1; ret | 0 2 5", one}})
}

// P19.2: an instruction with an operand that isn't a target marks nothing, whatever it says.
func TestNoTarget(t *testing.T) {
	for _, line := range []string{"uint 3 2", "uint 3 4", "uints 3 2 4", "uints 3 3 4", "bool 3", "varint 3", "offset 4", "call 3 0", "part 3 3 0", "tail 3", "ret", "seq", "struct"} {
		before := "struct; uint 0 1; uint 1 1; uint 2 1; uint 3 1; uint 4 1; ret; " + line + " | 0"
		after := "struct; uints 0 5 1; ret; " + line + " | 0"
		p := written(false, before)
		want, _ := splitOf(p)
		fuseIs(t, p, written(false, after))
		splitIs(t, p, want)
		follows(t, p)
	}
	for _, line := range []string{"number 3 2", "number 3 4", "numbers 3 2 4", "numbers 3 3 4", "flag 3", "many 3", "upto 3", "fields 3", "room 3", "slot 3", "enter 3 0", "each 3 0", "append 0", "leb", "ret"} {
		before := "fields 5; number 0 1; number 1 1; number 2 1; number 3 1; number 4 1; ret; " + line + " | 0"
		after := "fields 5; numbers 0 5 1; ret; " + line + " | 0"
		p := written(true, before)
		want, _ := splitOf(p)
		fuseIs(t, p, written(true, after))
		splitIs(t, p, want)
		follows(t, p)
	}
	// How many arms there are is none either.
	union := "struct; uint 0 1; uint 1 1; uint 2 1; ret; union 2; arm 0 4; arm 1 4 | 0"
	rows(t, false, [][3]string{{union, "struct; uints 0 3 1; ret; union 2; arm 0 2; arm 1 2 | 0", union}})
	choice := "fields 3; number 0 1; number 1 1; number 2 1; ret; choice 2; arm 0 4; arm 1 4 | 0"
	rows(t, true, [][3]string{{choice, "fields 3; numbers 0 3 1; ret; choice 2; arm 0 2; arm 1 2 | 0", choice}})
}

// P19.2, P19.3: targets of every instruction that has one, to what lies ahead of, at and behind a run, go where they went, from ahead of it and from behind.
func TestTargetsMoved(t *testing.T) {
	for _, encodes := range []bool{false, true} {
		for _, name := range targetNames(encodes) {
			for to := range 9 {
				if to == 5 {
					continue
				}
				// Numbers: 2 and 8 have the target, 4 and 5 are the run.
				target := strconv.Itoa(to)
				less := to
				if to > 5 {
					less--
				}
				text := head(encodes) + name + " %[1]s; ret; %[2]s; ret; ret; " + name + " %[1]s | 0"
				before := fmt.Sprintf(text, target, ones(encodes, 7, 2, 8))
				after := fmt.Sprintf(text, strconv.Itoa(less), several(encodes, 7, 2, 8))
				rows(t, encodes, [][3]string{{before, after, before}, {after, after, before}})
			}
		}
	}
}

// P19.2, P19.3: entries to what lies ahead of, behind and between runs go where they went.
func TestEntriesMoved(t *testing.T) {
	for _, encodes := range []bool{false, true} {
		routine := head(encodes)
		for n := 2; n <= 64; n++ {
			single, joined := ones(encodes, 0, n, 1), several(encodes, 0, n, 1)
			before := "a: " + routine + single + "; b: " + routine + single + "; " + single + "; c: " + routine + "| c a b c"
			after := "a: " + routine + joined + "; b: " + routine + joined + "; " + joined + "; c: " + routine + "| c a b c"
			rows(t, encodes, [][3]string{{before, after, before}, {after, after, before}})
		}
	}
}

// P19.3: of an instruction that has become several the first one is what targets and entries lead to.
func TestSplitTargets(t *testing.T) {
	rows(t, false, [][3]string{
		{"struct; jump a; a: uints 0 3 2; ret | 0", "struct; jump a; a: uints 0 3 2; ret | 0", "struct; jump a; a: uint 0 2; uint 1 2; uint 2 2; ret | 0"},
		{
			"struct; a: uints 0 2 2; b: uints 2 2 2; c: ret; jump a; jump b; jump c; less 1 b | 0",
			"struct; a: uints 0 2 2; b: uints 2 2 2; c: ret; jump a; jump b; jump c; less 1 b | 0",
			"struct; a: uint 0 2; uint 1 2; b: uint 2 2; uint 3 2; c: ret; jump a; jump b; jump c; less 1 b | 0",
		},
	})
	rows(t, true, [][3]string{
		{
			"fields 4; a: numbers 0 2 2; b: numbers 4 2 2; c: ret; jump a; jump b; jump c; again b; maybe a; arm 1 c | 0",
			"fields 4; a: numbers 0 2 2; b: numbers 4 2 2; c: ret; jump a; jump b; jump c; again b; maybe a; arm 1 c | 0",
			"fields 4; a: number 0 2; number 2 2; b: number 4 2; number 6 2; c: ret; jump a; jump b; jump c; again b; maybe a; arm 1 c | 0",
		},
	})
	// Every number of fields, ahead of a target that lies behind.
	for n := 2; n <= 64; n++ {
		for _, encodes := range []bool{false, true} {
			joined := opening(encodes, n) + "a: " + several(encodes, 0, n, 1) + "; b: ret; jump a; jump b | 0"
			single := opening(encodes, n) + "a: " + ones(encodes, 0, n, 1) + "; b: ret; jump a; jump b | 0"
			rows(t, encodes, [][3]string{{joined, joined, single}, {single, joined, single}})
		}
	}
}

// P19.2: of each union and choice the arms stay behind it.
func TestArmsStay(t *testing.T) {
	for _, arms := range []int{1, 2, 64} {
		for _, encodes := range []bool{false, true} {
			p := api.Program{Encodes: encodes, Entry: []int{3}, Code: written(encodes, ones(encodes, 0, 3, 1)).Code}
			many, leaf := 8, api.Instr{Op: 1, B: 2}
			if encodes {
				many, leaf = 41, api.Instr{Op: 33, A: 1, B: 2}
			}
			p.Code = append(p.Code, api.Instr{Op: many, A: arms})
			for arm := range arms {
				p.Code = append(p.Code, api.Instr{Op: 9, A: arm, B: 4 + arms + 2*arm})
			}
			for range arms {
				p.Code = append(p.Code, leaf, api.Instr{Op: 20})
			}
			want := cloned(p)
			want.Entry[0] = 1
			want.Code = append(written(encodes, several(encodes, 0, 3, 1)).Code, p.Code[3:]...)
			for at := range want.Code {
				if want.Code[at].Op == 9 {
					want.Code[at].B -= 2
				}
			}
			fuseIs(t, p, want)
			splitIs(t, want, p)
			follows(t, p)
		}
	}
}
