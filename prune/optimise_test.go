package prune_test

import (
	"slices"
	"testing"

	"mortise/api"
	"mortise/code"
	"mortise/flow"
	"mortise/fuse"
	"mortise/prune"
)

// P20.3: how many instructions are left of what the compilers lay: DOC.md's examples tell it.
func TestExamples(t *testing.T) {
	for text, want := range map[string][2]int{
		"type p=struct{id:u32,name:list<u8,20>,ok:bool};": {18, 18},
		"type l=list<option<u8>,2>;":                      {15, 12},
		"type a=u16;type b=list<u8,3>;":                   {9, 9},
		"type a=struct{x:u8,y:u8,z:u8,w:u8};":             {11, 11},
		"type l=list<u8,1048576>;":                        {7, 7},
		"":                                                {0, 0},
	} {
		for n, p := range built(t, text) {
			if q, f := prune.Optimise(p); f != ok || len(q.Code) != want[n] {
				t.Errorf("P20.3: Optimise of %q: %v, %d instructions, want %d", text, f, len(q.Code), want[n])
			}
		}
	}
}

// P20.3: of what the compilers lay runs become one, and nothing else is to be done.
func TestCompiled(t *testing.T) {
	for _, text := range schemaTexts() {
		for _, p := range built(t, text) {
			optimiseIs(t, p, answer(t, "P19.2: Fuse", fuse.Fuse, p))
			follows(t, p)
		}
	}
}

// step: a pass, and what comes of it; nothing, if it changes nothing.
type step struct {
	pass  func(api.Program) (api.Program, api.Fault)
	after string
}

// stepwise holds the passes, one behind the other, against what each of them is to make; and Optimise against the last.
func stepwise(t *testing.T, encodes bool, text string, steps ...step) {
	t.Helper()
	p := written(encodes, text)
	q := p
	for k, s := range steps {
		was := q
		q = answer(t, "a pass", s.pass, was)
		want := was
		if s.after != "" {
			want = written(encodes, s.after)
		}
		if !code.Equal(q, want) || s.after != "" && code.Equal(q, was) {
			t.Fatalf("step %d of %s: %s, want %s", k, brief(p), brief(q), brief(want))
		}
	}
	optimiseIs(t, p, q)
	modelAll(t, p)
	follows(t, p)
}

// P20.3: threaded, fused, pruned, and then there is more to be fused: what isn't reached led into a run.
func TestAgain(t *testing.T) {
	stepwise(t, false, "jump a; a: struct; uint 0 1; w: uint 1 1; uint 2 1; jump e; jump w; e: jump r; r: ret | 0",
		step{flow.Thread, "jump a; a: struct; uint 0 1; w: uint 1 1; uint 2 1; jump r; jump w; e: jump r; r: ret | a"},
		step{fuse.Fuse, "jump a; a: struct; uint 0 1; w: uints 1 2 1; jump r; jump w; e: jump r; r: ret | a"},
		step{prune.Prune, "a: struct; uint 0 1; uints 1 2 1; jump r; r: ret | a"},
		step{flow.Thread, ""},
		step{fuse.Fuse, "a: struct; uints 0 3 1; jump r; r: ret | a"},
		step{prune.Prune, ""}, step{flow.Thread, ""}, step{fuse.Fuse, ""})
	stepwise(t, true, "jump a; a: fields 3; number 0 2; w: number 2 2; number 4 2; jump e; again w; e: jump r; r: ret | 0",
		step{flow.Thread, "jump a; a: fields 3; number 0 2; w: number 2 2; number 4 2; jump r; again w; e: jump r; r: ret | a"},
		step{fuse.Fuse, "jump a; a: fields 3; number 0 2; w: numbers 2 2 2; jump r; again w; e: jump r; r: ret | a"},
		step{prune.Prune, "a: fields 3; number 0 2; numbers 2 2 2; jump r; r: ret | a"},
		step{flow.Thread, ""},
		step{fuse.Fuse, "a: fields 3; numbers 0 3 2; jump r; r: ret | a"},
		step{prune.Prune, ""}, step{flow.Thread, ""}, step{fuse.Fuse, ""})
}

// P20.3: one of the three finds something alone, and two of them.
func TestSomePasses(t *testing.T) {
	none := []step{{flow.Thread, ""}, {fuse.Fuse, ""}, {prune.Prune, ""}}
	for _, r := range []struct {
		text  string
		steps []step
	}{
		// Targets alone: the jump is come to from the instruction ahead, too.
		{"option j; bool 0; j: jump r; r: ret | 0", []step{{flow.Thread, "option r; bool 0; jump r; r: ret | 0"}, {fuse.Fuse, ""}, {prune.Prune, ""}}},
		// Entries alone.
		{"a: jump b; b: bool -1; ret; c: varint -1; jump a2; a2: jump e; e: ret | b c", []step{{flow.Thread, "a: jump b; b: bool -1; ret; c: varint -1; jump e; a2: jump e; e: ret | b c"}, {fuse.Fuse, ""}, {prune.Prune, "b: bool -1; ret; c: varint -1; jump e; e: ret | b c"}}},
		{"jump b; b: bool -1; ret | 0", []step{{flow.Thread, "jump b; b: bool -1; ret | b"}, {fuse.Fuse, ""}, {prune.Prune, "bool -1; ret | 0"}}},
		// Runs alone.
		{"struct; uint 0 1; uint 1 1; ret | 0", []step{{flow.Thread, ""}, {fuse.Fuse, "struct; uints 0 2 1; ret | 0"}, {prune.Prune, ""}}},
		// What isn't reached alone.
		{"seq; ret; b: bool -1; ret | b", []step{{flow.Thread, ""}, {fuse.Fuse, ""}, {prune.Prune, "bool -1; ret | 0"}}},
		// Runs and what isn't reached, runs there among it.
		{"uint 0 1; uint 1 1; b: struct; uint 0 2; uint 1 2; ret; uint 2 2; uint 3 2 | b", []step{{flow.Thread, ""}, {fuse.Fuse, "uints 0 2 1; b: struct; uints 0 2 2; ret; uints 2 2 2 | b"}, {prune.Prune, "struct; uints 0 2 2; ret | 0"}}},
		// Targets and runs.
		{"struct; jump j; r: ret; j: jump b; b: uint 0 1; uint 1 1; jump r | 0", []step{
			{flow.Thread, "struct; jump b; r: ret; j: jump b; b: uint 0 1; uint 1 1; jump r | 0"},
			{fuse.Fuse, "struct; jump b; r: ret; j: jump b; b: uints 0 2 1; jump r | 0"},
			{prune.Prune, "struct; jump b; r: ret; b: uints 0 2 1; jump r | 0"}}},
		// A ring that nothing leads to, and a way into it.
		{"bool -1; ret; a: jump b; b: jump a; jump a | 0", []step{{flow.Thread, ""}, {fuse.Fuse, ""}, {prune.Prune, "bool -1; ret | 0"}}},
	} {
		stepwise(t, false, r.text, slices.Concat(r.steps, none)...)
	}
	stepwise(t, true, "maybe j; leb; j: jump r; r: ret | 0", step{flow.Thread, "maybe r; leb; jump r; r: ret | 0"}, step{fuse.Fuse, ""}, step{prune.Prune, ""})
	stepwise(t, true, "n: many 3; a: number -1 1; again b; ret; b: jump a | n", step{flow.Thread, "n: many 3; a: number -1 1; again a; ret; b: jump a | n"}, step{fuse.Fuse, ""}, step{prune.Prune, "n: many 3; a: number -1 1; again a; ret | n"})
}

// P20.3: chains of jumps of every small length, forward and backward, to which one target leads: they go, as soon as none does.
func TestChainsGo(t *testing.T) {
	for n := 1; n < 30; n++ {
		forward, backward := written(false, "option 3; bool 0; ret | 0"), written(false, "option 3; bool 0; ret | 0")
		for k := range n {
			forward.Code = append(forward.Code, api.Instr{Op: 19, B: 3 + k + 1})
			backward.Code = append(backward.Code, api.Instr{Op: 19, B: 3 + k - 1})
		}
		forward.Code[2+n].B = 2
		backward.Code[0].B = 2 + n
		for _, p := range []api.Program{forward, backward} {
			pruneIs(t, p, p)
			optimiseIs(t, p, written(false, "option 2; bool 0; ret | 0"))
			modelAll(t, p)
			follows(t, p)
		}
	}
}

// P20.3: what isn't reached leads to every field of a run, by each instruction that has a target: the run becomes one all the same.
func TestMarksGo(t *testing.T) {
	for _, encodes := range []bool{false, true} {
		open, field, best := "struct; ", "uint 0 1; uint 1 1; uint 2 1; uint 3 1; ", "struct; uints 0 4 1; ret | 0"
		names := []string{"option", "first 9", "slots", "item 9", "less 9", "parts", "jump", "arm 7"}
		if encodes {
			open, field, best = "fields 4; ", "number 0 1; number 1 1; number 2 1; number 3 1; ", "fields 4; numbers 0 4 1; ret | 0"
			names = []string{"maybe", "again", "jump", "arm 7"}
		}
		for _, name := range names {
			text := open + field + "ret; "
			for _, to := range []string{"4", "3", "2", "1"} {
				text += name + " " + to + "; "
			}
			rows(t, encodes, [][3]string{{text + "| 0", open + field + "ret | 0", best}})
		}
	}
	// By what is reached a run is cut, and stays cut.
	rows(t, false, [][3]string{{
		"struct; uint 0 1; uint 1 1; w: uint 2 1; ret; b: struct; uint 1 1; bool 0; jump w; jump 2 | 0 b",
		"struct; uint 0 1; uint 1 1; w: uint 2 1; ret; b: struct; uint 1 1; bool 0; jump w | 0 b",
		"struct; uints 0 2 1; w: uint 2 1; ret; b: struct; uint 1 1; bool 0; jump w | 0 b",
	}})
	rows(t, true, [][3]string{{
		"fields 3; number 0 1; number 1 1; w: number 2 1; ret; b: fields 2; leb; jump w; jump 2 | 0 b",
		"fields 3; number 0 1; number 1 1; w: number 2 1; ret; b: fields 2; leb; jump w | 0 b",
		"fields 3; numbers 0 2 1; w: number 2 1; ret; b: fields 2; leb; jump w | 0 b",
	}})
}

// P20.3: programs of which nothing more can be made.
func TestSameAlready(t *testing.T) {
	same(t, false,
		"bool -1; ret | 0", "seq; a: item 9 r; bool -1; jump a; r: ret | 0", "option r; bool 0; r: ret | 0", "struct; uints 0 64 8; ret | 0",
		"struct; uint 1 1; uint 0 1; ret | 0", "bool -1; jump 2; ret | 0", "union 2; arm 1 x; arm 2 y; x: bool 0; jump r; y: uint 0 1; r: ret | 0",
	)
	same(t, true, "leb; ret | 0", "fields 2; number 0 1; number 2 1; ret | 0", "maybe r; leb; r: ret | 0", "upto 9; jump g; a: flag -1; g: again a; ret | 0", "fields 2; number 0 1; b: number 1 1; ret | 0 b")
}
