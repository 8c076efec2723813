package sound_test

import (
	"strings"
	"testing"
)

// P15.2: an instruction that is come to again in the state that it has keeps it.
func TestTwiceTheSame(t *testing.T) {
	takenRows(t, false, [][2]string{
		{"union 2; arm 0 x; arm 1 x; x: uint 0 1; ret | 0", "0 -1 -1 2 1"},
		{"union 2; arm 0 x; arm 1 y; x: bool 0; jump r; y: bool -1; r: jump q; q: ret | 0", "0 -1 -1 2 1 2 1 1"},
		{"a: uint -1 1; ret; jump a; jump a | 0 2 3 0", "0 1 0 0"},
		{"seq; i: item 9 r; uint -1 1; jump i; r: ret | 0", "0 2 2 2 2"},
		{"seq; less 9 a; less 9 a; ret; a: uint -1 1; ret | 0", "0 2 2 2 2 2"},
	})
	takenRows(t, true, [][2]string{
		{"choice 2; arm 0 x; arm 1 x; x: leb; ret | 0", "0 -1 -1 2 1"},
		{"a: leb; ret; jump a; jump a | 0 2 3 0", "0 1 0 0"},
		{"many 9; a: jump b; b: number -1 1; again a; ret | 0", "0 66 66 66 1"},
	})
}

// P15.2: in another one, in which it can stand with the same to hand on: it keeps its own, the one that came first.
func TestTwiceAlike(t *testing.T) {
	takenRows(t, false, [][2]string{
		// A number at an empty place, and as an option's or union's kid.
		{"option r; x: uint -1 2; r: ret | 0 x", "0 2 1"},
		{"option r; x: uint -1 2; r: ret | x 0", "0 0 1"},
		{"option r; x: call -1 0; r: ret; t: bool -1; ret | t 0 x", "0 2 1 0 1"},
		{"union 1; arm 9 x; x: varint -1; ret | 0 x", "0 -1 2 1"},
		{"union 1; arm 9 x; x: bool -1; ret | x 0", "0 -1 0 1"},
		// What is free at an instruction that doesn't ask for it.
		{"seq; a: item 9 r; uint -1 1; jump a; r: ret | 0", "0 2 2 2 2"},
		{"seq; a: uint -1 1; less 9 a; ret | 0", "0 2 2 2"},
		{"seq; offset 4; a: slots b; parts c; r: ret; b: offset 4; jump a; c: part -1 -1 0; tail -1; jump d; d: parts c; ret; t: seq; ret | t 0", "0 2 2 2 2 2 2 2 2 2 2 2 0 2"},
		{"seq; less 9 x; x: item 9 r; uint -1 1; r: ret | 0", "0 2 2 2 2"},
		{"seq; less 9 x; x: first 9 r; r: ret | 0", "0 2 2 2"},
		{"seq; offset 4; slots x; parts x; x: tail -1; ret | 0", "0 2 2 2 2 2"},
		{"seq; offset 4; slots x; x: slots y; y: parts z; z: ret | 0", "0 2 2 2 2 2"},
		// A seq's ret with a table and without one, and with what is free.
		{"seq; first 9 r; r: ret | 0", "0 2 2"},
		{"seq; less 9 r; r: ret | 0", "0 2 2"},
		// A ret is shared by all that can end there.
		{"uint -1 1; r: ret; seq; jump r; struct; bool 0; jump r | 0 2 4", "0 1 0 2 0 2 3"},
		{"uint -1 1; r: ret; seq; jump r; struct; bool 0; jump r | 2 0 4", "0 2 0 2 0 2 3"},
		{"uint -1 1; r: ret; seq; jump r; struct; bool 0; jump r | 4 2 0", "0 3 0 2 0 2 3"},
		{"struct; bool 0; jump r; struct; bool 1; uint 0 1; r: ret | 0 3", "0 2 3 0 2 3 3"},
		{"struct; bool 0; jump r; struct; bool 1; uint 0 1; r: ret | 3 0", "0 2 3 0 2 3 4"},
	})
	takenRows(t, true, [][2]string{
		{"fields 1; x: leb; ret | 0 x", "0 2 1"},
		{"fields 1; x: leb; ret | x 0", "0 0 1"},
		{"maybe r; x: number 1 8; r: ret | 0 x", "0 2 1"},
		{"choice 1; arm 0 x; x: flag 3; ret | 0 x", "0 -1 2 1"},
		{"maybe r; x: append 0; r: ret; t: leb; ret | t 0 x", "0 2 1 0 1"},
		{"maybe r; x: enter 4 0; r: ret; t: leb; ret | t x 0", "0 0 1 0 1"},
		{"many 9; a: room -1; number -1 1; jump g; g: again b; ret; b: jump a | 0", "0 66 66 66 66 1 66"},
		{"many 9; g: again a; ret; a: number -1 1; jump g | 0", "0 66 1 66 66"},
		{"upto 9; g: again a; ret; a: flag -1; jump g | 0", "0 66 1 66 66"},
	})
}

// P15.2: in another one, in which it can't stand, or hands on something else: it is at fault.
func TestTwiceOtherwise(t *testing.T) {
	refusedRows(t, false, []refusedRow{
		// It can't stand in it.
		{"option r; a: uint 0 1; jump a; r: ret | 0", 1},
		{"x: seq; ret; option r; jump x; r: ret | 0 2", 0},
		{"struct; a: uint 0 1; jump a | 0", 1},
		{"struct; a: uints 0 2 1; jump a | 0", 1},
		{"seq; a: uint -1 1; item 9 r; ret; r: jump a | 0", 1},
		{"seq; a: offset 4; parts a; ret | 0", 1},
		{"struct; offset 4; a: part 0 0 0; jump a; t: bool -1; ret | t 0", 2},
		{"uint -1 1; r: ret; struct; jump r | 0 2", 1},
		{"uint -1 1; r: ret; struct; bool 1; jump r | 0 2", 1},
		{"uint -1 1; r: ret; union 1; arm 0 r | 0 2", 1},
		{"option r; call 0 0; jump x; r: ret; x: call -1 0; ret; t: bool -1; ret | t 0 x", 4},
		// It hands on something else: the table, the kids, what is free.
		{"seq; first 9 x; x: item 9 r; uint -1 1; r: ret | 0", 2},
		{"seq; first 9 x; x: less 9 r; r: ret | 0", 2},
		{"seq; first 9 x; tail -1; x: jump y; y: ret | 0", 3},
		{"seq; less 9 x; x: jump y; y: ret | 0", 2},
		{"seq; offset 4; slots x; x: jump y; y: ret | 0", 3},
		{"struct; bool 1; jump x; struct; x: uint 0 1; ret | 0 3", 4},
		{"struct; uint 1 1; jump x; x: uint 0 1; uint 2 1; ret; struct; jump x | 0 6", 3},
		{"struct; offset 4; x: uint 0 1; ret; struct; jump x | 0 4", 2},
		{"seq; x: uint -1 1; ret; x2: uint -1 1; ret; jump x | 0 5", 1},
		{"struct; offset 4; x: offset 4; uint 0 1; ret; struct; jump x | 0 5", 2},
		{"option r; x: uint -1 1; r: ret; seq; jump x | 0 3", 1},
		// The entry itself, of a later type.
		{"option r; x: uint 0 1; r: ret | 0 x", 1},
		{"seq; x: item 9 r; uint -1 1; r: ret | 0 x", 1},
		{"uint -1 1; x: ret | 0 x", 1},
		{"struct; x: uint 0 1; ret | 0 x", 1},
		{"seq; x: jump r; r: ret | 0 x", 1},
	})
	refusedRows(t, true, []refusedRow{
		{"fields 2; a: leb; jump a | 0", 1},
		{"many 9; a: number -1 1; jump a | 0", 1},
		{"many 9; a: room -1; number -1 1; jump a | 0", 1},
		{"many 9; a: room 4; again a; b: ret | 0", 1},
		{"upto 9; a: room -1; again a; ret | 0", 1},
		{"many 9; a: slot -1; number -1 1; jump a | 0", 1},
		{"fields 2; x: slot 0; leb; leb; ret; fields 1; jump x | 0 5", 1},
		{"fields 1; x: leb; ret; fields 2; jump x | 0 3", 1},
		{"fields 3; x: numbers 0 2 1; leb; ret; fields 2; jump x | 0 4", 1},
		{"fields 2; x: numbers 0 2 1; ret; fields 3; jump x | 0 3", 1},
		{"fields 2; leb; x: leb; ret | 0 1", 1},
		{"maybe r; r: ret | 0", 1},
		{"maybe r; leb; r: jump q; q: ret; many 9; jump q | 0 4", 3},
		{"fields 1; x: leb; ret | 0 2", 2},
		{"many 9; x: again y; ret; y: number -1 1; jump x | 0 1", 1},
	})
}

// P15.2: what an instruction hands on from its own state, which can't be stood in and was not looked at, told by who is at fault: if it is the same as from the one that is handed, an instruction with a lesser number comes first.
func TestTwiceAheadOfItsTurn(t *testing.T) {
	const leaf = "; t: bool -1; ret | t 0"
	// Own: nothing is free. Handed: a kid, a slot, a part is. f can't stand, and is looked at ahead of x.
	kid := "seq; less 9 k; less 9 f; jump x; k: jump x; ret; f: struct; ret; x: %; ret"
	slot := "seq; offset 4; slots k; slots f; jump x; k: jump x; ret; f: struct; ret; x: %; ret"
	part := "seq; offset 4; parts k; parts f; jump x; k: jump x; ret; f: struct; ret; x: %; ret"
	for _, c := range []struct {
		text, x string
		at      int
	}{
		{kid, "uint -1 1", 6}, {kid, "bool -1", 6}, {kid, "varint -1", 6}, {kid, "call -1 0", 6},
		{slot, "offset 4", 7}, {slot, "offset 16777216", 7},
		{part, "part -1 -1 0", 7},
		// Own and handed are told apart by a jump, and refused in the handed one.
		{kid, "jump 9", 8}, {kid, "uint 0 1", 8}, {kid, "struct", 8}, {slot, "jump 9", 9}, {part, "jump 9", 9}, {slot, "uint -1 1", 9}, {part, "call -1 0", 9}, {kid, "call -1 1", 8}, {part, "part -1 -1 1", 9},
		// Both can be stood in.
		{kid, "item 9 9", 6}, {kid, "less 9 9", 6}, {slot, "slots 10", 7}, {part, "tail -1", 7}, {kid, "ret", 6}, {slot, "first 9 9", 9}, {kid, "first 9 9", 6},
	} {
		faultIs(t, written(false, strings.ReplaceAll(c.text, "%", c.x)+leaf), bad(c.at))
	}
	// Own: full. Handed: one.
	one := "union 3; arm 0 a; arm 1 b; arm 2 f; a: uint 0 1; jump x; b: jump x; f: seq; x: %; ret"
	for _, c := range []refusedRow{{"uint 0 1", 7}, {"uint -1 1", 7}, {"bool 0", 7}, {"varint -1", 7}, {"call 0 0", 7}, {"call -1 0", 7}, {"uint 1 1", 8}, {"ret", 8}, {"jump 9", 8}, {"call 0 1", 8}} {
		faultIs(t, written(false, strings.ReplaceAll(one, "%", c.text)+leaf), bad(c.at))
	}
	// The other way round: own: one. Handed: full.
	full := "union 3; arm 0 a; arm 1 b; arm 2 f; a: jump x; b: uint 0 1; jump x; f: seq; x: %; ret"
	for _, c := range []refusedRow{{"ret", 7}, {"uint 0 1", 8}, {"jump 9", 8}} {
		faultIs(t, written(false, strings.ReplaceAll(full, "%", c.text)+leaf), bad(c.at))
	}
	// Without f it is at fault in its own turn.
	faultIs(t, written(false, "union 2; arm 0 a; arm 1 b; a: jump x; b: uint 0 1; jump x; x: ret | 0"), bad(6))
}

// P15.2: the same of an encoder: again hands on the same from any state; less than none that are left is like no other state.
func TestTwiceAheadOfItsTurnEncoder(t *testing.T) {
	const leaf = "; t: leb; ret | t 0"
	// Own: left 0. Handed: seq, sure.
	again := "many 9; again b; jump x; ret; a: jump x; b: again a; f: leb; x: %; ret; n: number -1 1; again n; ret"
	for _, c := range []refusedRow{{"again n", 6}, {"jump x", 7}, {"room 4", 7}, {"room -1", 7}, {"ret", 7}, {"number -1 1", 7}, {"leb", 7}, {"append 0", 7}} {
		faultIs(t, written(true, strings.ReplaceAll(again, "%", c.text)+leaf), bad(c.at))
	}
	// Own: left 0. Handed: left 1.
	left := "choice 3; arm 0 a; arm 1 b; arm 2 f; a: leb; jump x; b: jump x; f: ret; x: %; ret"
	for _, c := range []refusedRow{{"leb", 8}, {"number 0 1", 8}, {"flag 0", 8}, {"enter 0 0", 8}, {"append 0", 8}, {"numbers 0 2 1", 8}, {"ret", 8}, {"room 4", 8}, {"slot 0", 8}, {"jump 9", 8}} {
		faultIs(t, written(true, strings.ReplaceAll(left, "%", c.text)+leaf), bad(c.at))
	}
	// Own: left 1. Handed: left 0.
	none := "choice 3; arm 0 a; arm 1 b; arm 2 f; a: jump x; b: leb; jump x; f: ret; x: %; ret"
	for _, c := range []refusedRow{{"ret", 7}, {"leb", 8}, {"append 0", 8}, {"room 4", 8}} {
		faultIs(t, written(true, strings.ReplaceAll(none, "%", c.text)+leaf), bad(c.at))
	}
}
