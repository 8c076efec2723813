package sound_test

import (
	"fmt"
	"strings"
	"testing"
)

// P15.2: a bare way to itself, through each instruction that doesn't take.
func TestRings(t *testing.T) {
	const leaf = "; t: bool -1; ret | t 0"
	refusedRows(t, false, []refusedRow{
		{"a: jump a | 0", 0},
		{"a: jump b; b: jump a | 0", 0},
		{"jump c; a: jump b; b: jump c; c: jump a | 0", 1},
		{"uint -1 1; a: jump b; b: jump a | 0", 1},
		{"option a; uint 0 1; a: jump a | 0", 2},
		{"struct; uint 0 1; a: jump a | 0", 2},
		{"seq; a: item 9 a; ret | 0", 1},
		{"seq; i: item 9 r; jump i; r: ret | 0", 1},
		{"seq; i: item 9 x; uint -1 1; ret; x: jump i | 0", 1},
		{"seq; a: less 9 a; ret | 0", 1},
		{"seq; a: less 9 r; jump a; r: ret | 0", 1},
		{"seq; offset 4; a: slots a; ret | 0", 2},
		{"seq; offset 4; a: slots b; jump a; b: offset 4; ret | 0", 2},
		{"seq; offset 4; a: parts a; ret | 0", 2},
		{"seq; offset 4; a: parts b; jump a; b: ret | 0", 2},
		{"seq; offset 4; a: tail -1; jump a | 0", 2},
		{"seq; a: first 9 a; ret | 0", 1},
		{"seq; jump a; b: jump a; a: first 9 b; ret | 0", 2},
		{"seq; a: item 9 b; uint -1 1; b: first 9 a; ret | 0", 1},
		{"seq; offset 4; a: slots b; parts c; ret; b: offset 4; jump a; c: parts a; ret | 0", 2},
		{"struct; offset 4; part 0 0 0; a: tail 0; jump a" + leaf, 3},
		// What is in a ring is at fault, not what leads to it or away.
		{"jump s; x: jump y; y: jump a; s: seq; jump x; a: item 9 b; jump a; b: jump c; c: ret | 0", 5},
		{"seq; less 9 b; a: jump a; b: ret | 0", 2},
		// A ring that lies between two others, and one in another.
		{"seq; a: item 9 b; jump a; b: item 9 c; jump b; c: ret | 0", 1},
		{"jump s; m: jump n; ret; s: seq; a: less 9 d; b: less 9 c; jump a; c: item 9 m; uint -1 1; ret; d: ret; n: jump n | 0", 4},
	})
	refusedRows(t, true, []refusedRow{
		{"a: jump a | 0", 0},
		{"leb; a: jump b; b: jump a | 0", 1},
		{"many 9; a: again a; ret | 0", 1},
		{"upto 9; a: again b; ret; b: jump a | 0", 1},
		{"many 9; a: room -1; jump a | 0", 1},
		{"many 9; a: slot -1; jump a | 0", 1},
		{"many 9; a: slot -1; room 4; again a; ret | 0", 1},
		{"fields 2; a: room 8; slot 3; jump a | 0", 1},
	})
	faultIs(t, written(true, "many 9; n: number -1 1; a: again b; ret; b: jump c; c: again n; ret | 0"), ok)
}

// P15.2: a round in which something takes is none: each instruction that takes and can stand in one.
func TestRounds(t *testing.T) {
	const leaf = "; t: bool -1; ret | t 0"
	for _, x := range []string{"uint -1 1", "uint -1 8", "bool -1", "varint -1", "call -1 0"} {
		faultIs(t, written(false, "seq; i: item 9 r; "+x+"; jump i; r: ret"+leaf), ok)
		faultIs(t, written(false, "seq; a: "+x+"; less 9 a; ret"+leaf), ok)
		faultIs(t, written(false, "seq; jump l; a: jump x; x: "+x+"; l: less 9 a; ret"+leaf), ok)
		// A way round it is bare, if it goes past what takes.
		faultIs(t, written(false, "seq; i: item 9 l; "+x+"; l: less 9 i; ret"+leaf), bad(1))
	}
	faultIs(t, written(false, "seq; offset 4; a: slots b; ret; b: offset 4; jump a"+leaf), ok)
	faultIs(t, written(false, "seq; offset 4; a: parts b; ret; b: part -1 -1 0; jump a"+leaf), ok)
	// First takes on its way to the next instruction, never on that to its target. It can't be come to again by the first, as the table is many then.
	faultIs(t, written(false, "seq; a: first 9 b; ret; b: item 9 r; uint -1 1; jump a; r: ret"+leaf), ok)
	faultIs(t, written(false, "seq; a: first 9 b; ret; b: less 9 c; ret; c: jump a"+leaf), bad(1))
	for _, x := range []string{"number -1 1", "flag -1", "each 5 0", "append 0"} {
		faultIs(t, written(true, "many 9; a: "+x+"; again a; ret; t: leb; ret | t 0"), ok)
		faultIs(t, written(true, "upto 9; jump g; a: slot -1; "+x+"; g: again a; ret; t: leb; ret | t 0"), ok)
		faultIs(t, written(true, "upto 9; g: again a; ret; a: room 4; "+x+"; jump g; t: leb; ret | t 0"), ok)
	}
}

// P15.2: which types pay: of a type that does a call may stand anywhere; of one that doesn't not as the first thing.
func TestPays(t *testing.T) {
	for _, c := range []struct {
		text string // of type 1; type 0 is a bool
		pays bool
	}{
		{"uint -1 1; ret", true}, {"bool -1; ret", true}, {"varint -1; ret", true},
		{"struct; uints 0 2 1; ret", true}, {"option r; bool 0; r: ret", true}, {"option r; jump q; r: ret; q: bool 0; ret", true},
		{"union 1; arm 0 x; x: bool 0; ret", true},
		{"struct; offset 4; part 0 0 0; ret", true}, {"seq; offset 4; ret", true},
		{"seq; ret", false}, {"jump s; s: seq; jump r; r: ret", false},
		// On every way, not on some.
		{"seq; item 9 r; uint -1 1; r: ret", false}, {"seq; i: item 9 r; uint -1 1; jump i; r: ret", false},
		{"seq; a: uint -1 1; less 9 a; ret", true}, {"seq; less 9 a; ret; a: uint -1 1; ret", false},
		{"seq; first 9 r; ret; r: ret", false}, {"seq; first 9 r; ret; r: item 9 q; uint -1 1; q: ret", false},
		{"seq; first 9 x; ret; x: first 9 y; y: ret", false}, {"seq; item 9 x; bool -1; ret; x: less 9 y; ret; y: bool -1; ret", false},
		{"seq; item 9 r; bool -1; ret; r: less 9 a; jump q; a: bool -1; q: ret", false},
		// A call of a type that pays takes; of one that doesn't it can't stand there at all.
		{"call -1 0; ret", true}, {"struct; call 0 0; ret", true}, {"seq; item 9 r; call -1 0; r: ret", false},
		{"seq; a: call -1 0; less 9 a; ret", true},
		// A part of a struct doesn't take, what it stands behind does; a part of a seq is none of those that make a type pay.
		{"seq; offset 4; parts a; ret; a: part -1 -1 0; ret", true},
		{"seq; first 9 r; parts a; ret; a: part -1 -1 0; r: ret", false},
	} {
		text := c.text + "; t: bool -1; ret; v: "
		at := strings.Count(text, ";")
		first, behindJumps := ok, ok
		if !c.pays {
			first, behindJumps = bad(at), bad(at+4)
		}
		faultIs(t, written(false, text+"call -1 1; ret | t 0 v"), first)
		faultIs(t, written(false, text+"jump v1; struct; v1: jump v2; v2: struct; call 0 1; uint 1 1; ret | t 0 v"), behindJumps)
		// Behind something that takes both may be called.
		faultIs(t, written(false, text+"option v1; call 0 1; v1: ret | t 0 v"), ok)
	}
}

// P15.2: what takes, told by a call of a type that doesn't pay: behind it that call can stand.
func TestTakes(t *testing.T) {
	const types = "; t: seq; ret; u: bool -1; ret; v: seq; offset 4; ret | t u v 0"
	for _, c := range []struct {
		text string
		at   int // of the call, if it is at fault; else -1
	}{
		{"struct; uint 1 1; call 0 0; ret", -1}, {"struct; uints 1 2 1; call 0 0; ret", -1}, {"struct; bool 1; call 0 0; ret", -1}, {"struct; varint 1; call 0 0; ret", -1},
		{"option r; call 0 0; r: ret", -1}, {"union 1; arm 0 x; x: call 0 0; ret", -1}, {"struct; offset 4; call 0 0; ret", -1},
		{"struct; call 1 1; call 0 0; ret", -1}, {"struct; call 1 2; call 0 0; ret", -1},
		{"struct; call 0 0; ret", 1}, {"struct; jump a; a: jump b; b: call 0 0; ret", 3}, {"seq; call -1 0; ret", 1}, {"call -1 0; ret", 0}, {"jump x; ret; x: call -1 0; ret", 2},
		{"seq; item 9 r; call -1 0; r: ret", 2}, {"seq; less 9 a; ret; a: call -1 0; ret", 3},
		{"seq; first 9 a; item 9 r; call -1 0; r: ret; a: ret", -1}, {"seq; first 9 a; ret; a: item 9 r; call -1 0; r: ret", 4},
		{"seq; offset 4; parts a; ret; a: part -1 -1 0; item 9 r; call -1 0; r: ret", -1},
		// One such call behind another: between them something must take, and a part of a struct, a tail or a jump doesn't.
		{"struct; uint 2 1; call 0 0; call 1 0; ret", 3}, {"struct; uint 2 1; call 0 0; jump b; b: call 1 0; ret", 4},
		{"struct; uint 2 1; call 0 0; uint 1 1; call 3 0; ret", -1}, {"struct; uint 2 1; call 0 0; call 1 1; call 3 0; ret", -1},
		{"struct; uint 2 1; call 0 0; call 1 1; call 3 0; call 4 0; ret", 5},
		{"struct; offset 4; call 0 0; part 1 0 0; call 2 0; ret", 4}, {"struct; offset 4; part 1 0 0; call 0 0; ret", -1}, {"struct; offset 4; part 1 0 1; tail 0; call 0 0; call 2 1; ret", -1},
		{"struct; offset 4; call 0 0; part 1 0 0; tail 0; call 2 0; ret", 5},
		{"struct; offset 4; call 0 0; offset 4; call 1 0; ret", -1}, {"struct; uint 3 1; call 0 0; uints 1 2 1; call 4 0; ret", -1},
		// Behind itself, in a ring that is bare, or in a round in which something takes.
		{"seq; i: item 9 r; call -1 0; jump i; r: ret", 1},
		{"seq; a: uint -1 1; item 9 r; call -1 0; less 9 a; r: ret", -1},
		{"seq; a: uint -1 1; b: item 9 r; call -1 0; less 9 a; jump b; r: ret", 2},
		{"seq; uint -1 1; jump n; a: uint -1 1; n: item 9 r; call -1 0; less 9 a; ret; r: ret", -1},
	} {
		p := written(false, c.text+types)
		if c.at < 0 {
			faultIs(t, p, ok)
		} else {
			faultIs(t, p, bad(c.at))
		}
	}
}

// P15.2: a call that is led to by a bare way from behind another one, past branches, and the least of several.
func TestCallsBehindCalls(t *testing.T) {
	const types = "; t: seq; ret; u: bool -1; ret | t u 0"
	refusedRows(t, false, []refusedRow{
		{"seq; uint -1 1; item 9 r; call -1 0; item 9 r; call -1 0; r: ret" + types, 5},
		{"jump s; x: call -1 0; ret; s: seq; uint -1 1; item 9 r; call -1 0; item 9 r; jump x; r: ret" + types, 1},
		{"seq; uint -1 1; item 9 r; call -1 0; less 9 a; jump b; a: call -1 1; b: item 9 r; call -1 0; r: ret" + types, 8},
		{"seq; uint -1 1; item 9 r; call -1 0; item 9 b; call -1 1; jump c; b: jump c; c: item 9 r; call -1 0; r: ret" + types, 9},
		{"struct; uint 4 1; call 0 0; call 1 0; call 2 0; call 3 0; ret" + types, 3},
		{"struct; uint 5 1; jump c; a: call 2 0; uint 3 1; uint 4 1; ret; c: call 0 0; uint 1 1; jump d; d: call 6 0; jump a" + types, 3},
	})
	// In a round, each call behind something that takes.
	faultIs(t, written(false, "seq; uint -1 1; item 9 r; call -1 0; a: less 9 b; ret; b: uint -1 1; item 9 r; call -1 0; jump a; r: ret"+types), ok)
}

// P15.2: an encoder's types may be empty: nothing is asked of what it calls there but that it lies below.
func TestEncoderCalls(t *testing.T) {
	shapeIs(t, written(true, "upto 3; jump g; a: number -1 1; g: again a; ret; e: enter 0 0; ret; s: fields 2; append 0; append 0; ret | 0 e s"), 0, 66, 66, 66, 1, 0, 1, 0, 3, 2, 1)
	chain := "leb; ret"
	entries := " | 0"
	for k := range 60 {
		chain += fmt.Sprintf("; append %d; ret", k)
		entries += fmt.Sprint(" ", 2+2*k)
	}
	faultIs(t, written(true, chain+entries), ok)
}

// P15.2: types that call types that call types: one that doesn't pay makes those that only call it at fault, one that pays makes them pay.
func TestPaysThroughTypes(t *testing.T) {
	text, entries := "bool -1; ret", " | 0"
	for k := range 60 {
		text += fmt.Sprintf("; call -1 %d; ret", k)
		entries += fmt.Sprint(" ", 2+2*k)
	}
	faultIs(t, written(false, text+entries), ok)
	text, entries = "seq; ret", " | 0"
	for k := range 60 {
		// Each may read one of the type below, or none: none of them pays.
		text += fmt.Sprintf("; seq; first 9 %d; item 9 %d; call -1 %d; ret", 6+5*k, 6+5*k, k)
		entries += fmt.Sprint(" ", 2+5*k)
	}
	faultIs(t, written(false, text+entries), ok)
	faultIs(t, written(false, text+"; x: struct; call 0 60; ret"+entries+" x"), bad(303))
	faultIs(t, written(false, text+"; x: struct; bool 1; call 0 60; ret"+entries+" x"), ok)
}
