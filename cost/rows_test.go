package cost_test

import "testing"

// P21.2, P21.3: the chapter's worked examples, by their code.
func TestExamples(t *testing.T) {
	rowsAre(t, [][3]string{
		{"uint -1 2; ret | 0", "1 1", "2 2 1"},
		{"seq; uint -1 1; less 3 1; ret | 0", "2 1 2 1", "4 4 1"},
		{"seq; item 9 4; uint -1 1; jump 1; ret | 0", "3 2 1 3 1", "6 4 1"},
		{"", "", "0 0 0"},
	})
}

// P21.2, P21.3: the same as lower makes them, with the types that they are made of; those of DOC.md's example 7, which the optimiser costs nothing; and more.
func TestExamplesOfLower(t *testing.T) {
	for _, r := range [][4]string{
		{"", "", "0 0 0", "0 0 0"},
		{"type a=u16;", "1 1", "2 2 1", "2 2 1"},
		{"type a=vector<u8,3>;", "1 1 2 1 2 1", "4 4 1", "4 4 1"},
		{"type a=list<u8,9>;", "1 1 3 2 1 3 1", "6 4 1", "6 4 1"},
		{"type a=struct{x:u8,y:u8,z:u8,w:u8};", "1 1 1 1 1 1 1 1 2 1 1 1 1 1", "4 4 1", "4 4 1"},
		{"type l=list<u8,1048576>;", "1 1 3 2 1 3 1", "6 4 1", "6 4 1"},
		// An option, a union, and such as call their types.
		{"type a=option<u8>;", "1 1 1 1 1", "2 2 1", "2 2 1"},
		{"type a=union{1:bool,7:varint};", "1 1 1 1 1 0 0 1 2 1 1", "4 2 1", "4 2 1"},
		{"type a=option<struct{x:u8}>;", "1 1 2 1 1 1 3 1", "9 6 2", "9 6 2"},
		{"type a=vector<struct{x:u8},3>;", "1 1 2 1 1 4 3 4 1", "12 9 2", "12 9 2"},
		{"type a=list<struct{x:u8},3>;", "1 1 2 1 1 5 4 3 5 1", "15 9 2", "15 9 2"},
		// A vector and a list of variable items: the optimiser makes the ways without bytes shorter.
		{"type a=vector<varint,3>;", "1 1 2 1 4 3 2 3 2 1", "12 3 2", "12 3 2"},
		{"type a=list<varint,3>;", "1 1 3 2 5 1 4 3 2 3 2 1", "15 3 2", "15 3 2"},
		{"type a=list<list<u8,3>,3>;", "1 1 3 2 1 3 1 3 2 5 1 4 3 7 3 2 1", "21 6 2", "21 6 2"},
		// A struct of two lists: each may be without bytes, and tail is done each time.
		{"type a=struct{a:list<u8,9>,b:list<u8,9>};", "1 1 3 2 1 3 1 1 1 3 2 1 3 1 2 1 1 11 7 6 2 1", "33 9 2", "33 9 2"},
		{"type a=struct{a:u8,b:list<u16,9>,c:u8};", "1 1 1 1 3 2 1 3 1 1 1 2 1 1 1 6 2 1", "18 6 2", "18 6 2"},
	} {
		p := decoderOf(t, schemaOf(t, r[0]))
		straightIs(t, p, numbersOf(r[1]))
		costIs(t, p, costOf(r[2]))
		costIs(t, optimised(t, p), costOf(r[3]))
		modelAll(t, p)
		follows(t, p)
	}
}

// P21.2, P21.3: each instruction that takes is 1, whatever stands behind it.
func TestTakers(t *testing.T) {
	rowsAre(t, [][3]string{
		{"uint -1 8; jump 2; jump 3; ret | 0", "1 3 2 1", "6 2 1"},
		{"struct; uints 0 3 2; jump 3; ret | 0", "2 1 2 1", "4 4 1"},
		{"struct; uints 0 64 1; ret | 0", "2 1 1", "4 4 1"},
		{"bool -1; jump 2; ret | 0", "1 2 1", "4 2 1"},
		{"varint -1; jump 2; ret | 0", "1 2 1", "4 2 1"},
		{"option 3; bool 0; ret; jump 4; jump 2 | 0", "1 1 1 3 2", "6 2 1"},
		{"option 2; jump 3; ret; bool 0; jump 2 | 0", "1 2 1 1 2", "4 2 1"},
		{"union 1; arm 255 2; jump 3; varint 0; ret | 0", "1 0 2 1 1", "4 2 1"},
		{"union 2; arm 3 3; arm 9 5; bool 0; ret; jump 6; uint 0 1; ret | 0", "1 0 0 1 1 2 1 1", "4 2 1"},
		{"seq; offset 4; slots 1; jump 4; ret | 0", "2 1 3 2 1", "6 2 1"},
	})
}

// P21.2, P21.3: each instruction that doesn't take is one more than the greatest of those that it may go on with.
func TestOthers(t *testing.T) {
	rowsAre(t, [][3]string{
		{"seq; ret | 0", "2 1", "4 2 1"},
		{"seq; jump 2; jump 3; jump 4; ret | 0", "5 4 3 2 1", "10 2 1"},
		{"struct; bool 0; ret | 0", "2 1 1", "4 4 1"},
		{"struct; jump 2; jump 3; bool 0; ret | 0", "4 3 2 1 1", "8 4 1"},
		{"jump 1; bool -1; ret | 0", "2 1 1", "4 2 1"},
		{"jump 3; bool -1; ret; jump 1 | 0", "3 1 1 2", "6 2 1"},
		// The next one is greater, the target is greater, both are alike, both are one.
		{"seq; item 9 3; jump 3; ret | 0", "4 3 2 1", "8 2 1"},
		{"seq; item 9 3; ret; jump 4; jump 2 | 0", "5 4 1 3 2", "10 2 1"},
		{"seq; item 9 2; ret | 0", "3 2 1", "6 2 1"},
		{"seq; less 9 3; jump 3; ret | 0", "4 3 2 1", "8 2 1"},
		{"seq; less 9 3; ret; jump 4; jump 2 | 0", "5 4 1 3 2", "10 2 1"},
		{"seq; offset 4; slots 4; ret; jump 5; jump 3 | 0", "2 1 4 1 3 2", "8 2 1"},
		{"seq; offset 4; slots 5; jump 4; ret; jump 4 | 0", "2 1 3 2 1 2", "6 2 1"},
		// What takes, and what doesn't, on the two sides of a branch.
		{"seq; item 9 5; jump 3; varint -1; jump 1; ret | 0", "4 3 2 1 4 1", "8 4 1"},
		{"seq; item 9 4; bool -1; jump 1; jump 5; ret | 0", "4 3 1 4 2 1", "8 4 1"},
		// Of tail, in a struct and in a sequence.
		{"bool -1; ret; struct; offset 4; part 0 0 0; tail 0; tail 0; tail 0; ret | 0 2", "1 1 2 1 2 4 3 2 1", "12 3 2"},
		{"seq; offset 4; tail -1; tail -1; ret | 0", "2 1 3 2 1", "6 2 1"},
	})
}

// P21.2, P21.3: first takes, or goes on at its target.
func TestFirst(t *testing.T) {
	rowsAre(t, [][3]string{
		// At its target is the next one, another ret, a long way, a way to something that takes.
		{"seq; first 9 2; ret | 0", "3 2 1", "6 2 1"},
		{"seq; first 9 4; jump 3; ret; ret | 0", "3 2 2 1 1", "6 2 1"},
		{"seq; first 9 3; ret; jump 4; jump 5; ret | 0", "5 4 1 3 2 1", "10 2 1"},
		{"seq; first 9 4; jump 3; ret; item 9 3; bool -1; jump 4 | 0", "4 3 2 1 2 1 3", "8 4 1"},
		// A long way behind it counts from there on alone.
		{"seq; first 9 7; jump 3; jump 4; jump 5; jump 6; ret; ret | 0", "3 2 5 4 3 2 1 1", "10 2 1"},
		// A list of variable items: with its items' type 0, which has no way without bytes, and which has one.
		{"varint -1; ret; l: seq; first 9 r; jump s; a: offset 4; s: slots a; jump p; b: part -1 -1 0; tail -1; p: parts b; r: ret | 0 l", "1 1 3 2 5 1 4 3 2 3 2 1", "15 3 2"},
		{"seq; ret; l: seq; first 9 r; jump s; a: offset 4; s: slots a; jump p; b: part -1 -1 0; tail -1; p: parts b; r: ret | 0 l", "2 1 3 2 5 1 4 3 6 3 2 1", "18 3 2"},
		// Such a list's type has a way without bytes itself: by its first alone.
		{"varint -1; ret; l: seq; first 9 r; jump s; a: offset 4; s: slots a; jump p; b: part -1 -1 0; tail -1; p: parts b; r: ret; t: struct; offset 4; part 0 0 1; tail 0; ret | 0 l t", "1 1 3 2 5 1 4 3 2 3 2 1 2 1 6 2 1", "24 4 3"},
	})
}

// P21.2, P21.3: parts never goes on at its target, however long the way from there is.
func TestParts(t *testing.T) {
	rowsAre(t, [][3]string{
		{"bool -1; ret; v: seq; a: offset 12; slots a; jump p; b: part -1 -1 0; tail -1; p: parts b; ret | 0 v", "1 1 2 1 4 3 2 3 2 1", "12 3 2"},
		{"bool -1; ret; v: seq; a: offset 12; slots a; p: parts c; ret; c: jump d; d: jump e; e: jump b; b: part -1 -1 0; jump p | 0 v", "1 1 2 1 3 2 1 5 4 3 2 3", "15 3 2"},
		// Its target is nothing but the round: the type has a way without bytes, and the part goes on.
		{"seq; ret; v: seq; a: offset 12; slots a; p: parts c; ret; c: jump d; d: jump e; e: jump b; b: part -1 -1 0; jump p | 0 v", "2 1 2 1 3 2 1 9 8 7 6 3", "27 3 2"},
		// Behind it is a long way.
		{"bool -1; ret; v: seq; a: offset 12; slots a; p: parts b; jump q; q: jump r; r: ret; b: part -1 -1 0; jump p | 0 v", "1 1 2 1 5 4 3 2 1 2 5", "15 3 2"},
	})
}

// P21.2, P21.3: calls and parts of types that have a way without bytes, and of such as have none.
func TestCalls(t *testing.T) {
	rowsAre(t, [][3]string{
		// None: what is behind the call counts nowhere.
		{"bool -1; ret; call -1 0; jump 4; ret | 0 2", "1 1 2 2 1", "6 3 2"},
		{"bool -1; ret; struct; call 0 0; call 1 0; ret | 0 2", "1 1 3 2 2 1", "9 6 2"},
		{"bool -1; ret; struct; offset 4; part 0 0 0; tail 0; ret | 0 2", "1 1 2 1 2 2 1", "6 3 2"},
		{"jump 1; jump 2; bool -1; ret; call -1 0; ret | 0 4", "3 2 1 1 4 1", "12 3 2"},
		// One, and nothing but it: the way behind is always gone.
		{"seq; ret; option 4; call 0 0; ret | 0 2", "2 1 1 4 1", "12 3 2"},
		{"seq; ret; struct; bool 0; call 1 0; bool 2; ret | 0 2", "2 1 2 1 4 1 1", "12 6 2"},
		{"seq; ret; struct; bool 0; call 1 0; jump 6; ret | 0 2", "2 1 2 1 5 2 1", "15 6 2"},
		{"seq; ret; struct; offset 4; part 0 0 0; tail 0; ret | 0 2", "2 1 2 1 5 2 1", "15 3 2"},
		// Both: of the list's ways the one into its items, or the one through it and on, is longer.
		{"seq; a: item 9 r; bool -1; jump a; r: ret; option 7; call 0 0; ret | 0 5", "3 2 1 3 1 1 5 1", "15 6 2"},
		{"seq; a: item 9 r; jump c; c: jump d; d: jump e; e: bool -1; jump a; r: ret; option 10; call 0 0; ret | 0 8", "6 5 4 3 2 1 6 1 1 7 1", "21 6 2"},
		// Two parts one behind the other, each with tail; then a third one, whose type has none.
		{"seq; ret; struct; offset 8; offset 8; part 0 0 0; tail 0; part 1 1 0; tail 1; ret | 0 2", "2 1 2 1 1 9 6 5 2 1", "27 6 2"},
		{"seq; ret; varint -1; ret; struct; offset 8; offset 8; part 0 0 0; tail 0; part 1 1 1; tail 1; ret | 0 2 4", "2 1 1 1 2 1 1 6 3 2 2 1", "18 6 2"},
		{"seq; ret; varint -1; ret; struct; offset 8; offset 8; part 0 0 1; tail 0; part 1 1 0; tail 1; ret | 0 2 4", "2 1 1 1 2 1 1 2 6 5 2 1", "18 3 2"},
		// Nodes: a struct, and behind it those of types that call types.
		{"bool -1; ret; struct; call 0 0; ret; struct; call 0 1; ret; struct; call 0 2; ret | 0 2 5 8", "1 1 3 2 1 5 4 1 7 6 1", "35 20 4"},
	})
}

// P21.2, P21.3: a way without bytes that leads through the routines of other types: into the middle of one, by several jumps, from one to the next.
func TestThroughOthers(t *testing.T) {
	rowsAre(t, [][3]string{
		{"seq; ret; jump 0; jump 2; struct; offset 4; part 0 0 2; tail 0; ret | 0 2 3 4", "2 1 3 4 2 1 7 2 1", "21 3 2"},
		{"seq; jump 2; ret; seq; jump 1; struct; offset 4; part 0 0 1; tail 0; ret | 0 3 5", "3 2 1 4 3 2 1 7 2 1", "21 3 2"},
		{"seq; a: item 9 r; bool -1; jump a; r: ret; seq; jump 1; option 9; call 0 1; ret | 0 5 7", "3 2 1 3 1 4 3 1 6 1", "18 6 2"},
		// A type that has one, by another type's ret, and one that has none, by another type's bool.
		{"seq; jump 3; bool -1; ret; jump 2; option 7; call 0 0; ret; option 10; call 0 1; ret | 0 4 5 8", "3 2 1 1 2 1 5 1 1 3 1", "15 3 2"},
	})
}

// P21.2: ways that part and meet again: the longest counts, once.
func TestMeeting(t *testing.T) {
	rowsAre(t, [][3]string{
		{"seq; less 9 3; less 9 4; less 9 4; ret | 0", "5 4 3 2 1", "10 2 1"},
		{"seq; item 9 4; jump 3; jump 4; ret | 0", "5 4 3 2 1", "10 2 1"},
		{"seq; item 9 4; item 9 6; jump 4; less 9 6; jump 6; ret | 0", "7 6 5 4 3 2 1", "14 2 1"},
		{"seq; a: item 9 e; item 9 c; bool -1; jump a; c: item 9 e; varint -1; jump a; e: ret | 0", "5 4 3 1 5 2 1 5 1", "10 4 1"},
		{"union 3; arm 1 4; arm 2 5; arm 3 6; jump 5; jump 6; bool 0; ret | 0", "1 0 0 0 3 2 1 1", "6 2 1"},
	})
}

// P21.2, P21.3: entries: at one instruction, in the middle of a routine, in no order; routines that no other calls; instructions that lie in none.
func TestEntries(t *testing.T) {
	rowsAre(t, [][3]string{
		{"bool -1; ret | 0 0 0", "1 1", "2 2 1"},
		{"bool -1; ret", "0 0", "0 0 0"},
		{"jump 0; parts 0; call -1 0; arm 7 0; bool -1; ret | 4", "0 0 0 0 1 1", "2 2 1"},
		{"bool -1; ret; seq; jump 3; ret; call -1 0; ret | 0", "1 1 0 0 0 0 0", "2 2 1"},
		{"seq; ret; bool -1; ret | 2", "0 0 1 1", "2 2 1"},
		{"jump 1; bool -1; ret | 0 1 0", "2 1 1", "4 2 1"},
		{"bool -1; ret; seq; ret | 2 0", "1 1 2 1", "4 2 1"},
		{"option 2; uint -1 1; ret | 0 1", "1 1 1", "2 2 1"},
		{"bool -1; ret; option 4; call -1 0; ret; struct; call 0 2; ret | 0 2 3 5", "1 1 1 2 1 4 3 1", "16 8 3"},
		// What is called nowhere may be what costs the most.
		{"bool -1; ret; seq; jump 4; jump 5; ret; call -1 0; ret | 0 2 6", "1 1 4 3 2 1 2 1", "12 3 2"},
	})
}

// P21.3: how deep types call types: of two calls the deeper one, by parts too, in loops, and in code that two types share.
func TestDepth(t *testing.T) {
	depthIs := func(want int, text string) {
		t.Helper()
		p := written(false, text)
		if modelAll(t, p) != ok {
			t.Fatalf("the test's program is refused: %s", brief(p))
		}
		if c := costNow(t, p); c.Depth != want {
			t.Errorf("P21.3: Of(%s): Depth %d, want %d", brief(p), c.Depth, want)
		}
	}
	depthIs(0, "bool -1; ret")
	depthIs(1, "bool -1; ret; varint -1; ret | 0 2")
	depthIs(2, "bool -1; ret; call -1 0; ret | 0 2")
	depthIs(3, "bool -1; ret; call -1 0; ret; call -1 1; ret | 0 2 4")
	depthIs(3, "bool -1; ret; call -1 0; ret; struct; call 0 0; call 1 1; ret | 0 2 4")
	depthIs(3, "bool -1; ret; call -1 0; ret; struct; call 0 1; call 1 0; ret | 0 2 4")
	depthIs(3, "bool -1; ret; call -1 0; ret; struct; offset 4; part 0 0 1; tail 0; ret | 0 2 4")
	depthIs(3, "bool -1; ret; call -1 0; ret; seq; a: offset 8; slots a; p: parts b; ret; b: part -1 -1 1; jump p | 0 2 4")
	depthIs(3, "bool -1; ret; call -1 0; ret; seq; a: item 9 r; bool -1; item 9 r; call -1 1; jump a; r: ret | 0 2 4")
	depthIs(2, "bool -1; ret; call -1 0; ret; call -1 0; ret; call -1 0; ret | 0 2 4 6")
	// The calls that nothing comes to, and those of a type that nobody has any more.
	depthIs(2, "bool -1; ret; call -1 0; ret; call -1 1; ret | 0 2")
	// A type that enters at an arm of another one calls what that arm calls alone, whichever of the two comes first.
	arms := "bool -1; ret; s: struct; call 0 0; ret; u: union 2; arm 0 x; arm 1 y; x: call -1 0; ret; y: call -1 1; ret; z: struct; call 0 "
	depthIs(3, arms+"3; ret | 0 s u x z")
	depthIs(4, arms+"2; ret | 0 s u x z")
	depthIs(3, arms+"2; ret | 0 s x u z")
	depthIs(4, arms+"3; ret | 0 s x u z")
	depthIs(4, arms+"3; ret | 0 s u y z")
	// A loop in which two types enter: both call what it calls.
	loop := "bool -1; ret; s: call -1 0; ret; l: seq; a: item 9 r; call -1 1; jump a; r: ret; m: seq; jump a; z: struct; bool 0; call 1 "
	depthIs(4, loop+"2; ret | 0 s l m z")
	depthIs(4, loop+"3; ret | 0 s l m z")
	// Behind the loop, in it, and ahead of it stand calls of other depths.
	depthIs(4, "bool -1; ret; s: call -1 0; ret; v: call -1 1; ret; t: struct; call 0 2; call 1 1; call 2 0; ret | 0 s v t")
}
