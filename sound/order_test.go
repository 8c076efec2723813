package sound_test

import (
	"testing"

	"mortise/api"
)

// P15.2: code.Check's fault comes ahead of all else, whatever stands in the code.
func TestCheckComesFirst(t *testing.T) {
	p := written(false, "ret; jump 0; uint -1 1; ret | 0 1")
	faultIs(t, p, bad(0))
	p.Code[2].B = 3
	faultIs(t, p, api.Fault{Err: api.ErrOp, At: 2})
	p.Entry[1] = 4
	faultIs(t, p, api.Fault{Err: api.ErrOp, At: 2})
	p.Code[2].B = 1
	faultIs(t, p, api.Fault{Err: api.ErrPlace, At: 1})
	p.Entry[0] = -1
	faultIs(t, p, api.Fault{Err: api.ErrPlace, At: 0})
	for _, text := range []string{"uint -1 1; ret; call -1 1; ret | 0", "uint -1 1; ret; jump 4; ret | 0", "uint -1 1; ret; union 1; ret | 0", "uint -1 1; ret; uints 63 2 1; ret | 0"} {
		// It has not its form, though it is never come to.
		faultIs(t, written(false, text), api.Fault{Err: api.ErrOp, At: 2})
	}
	for _, encodes := range []bool{false, true} {
		long := api.Program{Encodes: encodes, Code: make([]api.Instr, api.MaxCode+1), Entry: []int{0}}
		faultIs(t, long, api.Fault{Err: api.ErrLong})
		many := api.Program{Encodes: encodes, Code: []api.Instr{{Op: 20}}, Entry: make([]int, api.MaxCode+1)}
		faultIs(t, many, api.Fault{Err: api.ErrLong})
	}
}

// P15.2: the first look: the types by their numbers, whatever their entries are.
func TestTypesInOrder(t *testing.T) {
	refusedRows(t, false, []refusedRow{
		{"ret; ret; ret | 2 1 0", 2},
		{"ret; ret; ret | 1 0 2", 1},
		{"uint 0 1; ret; uint -1 1; ret; bool 0; ret | 2 4 0", 4},
		{"uint 0 1; ret; uint -1 1; ret; bool 0; ret | 2 0 4", 0},
		{"seq; uint -1 1; uint -1 1; ret; ret | 0 4", 2},
		{"seq; uint -1 1; uint -1 1; ret; ret | 4 0", 4},
	})
	refusedRows(t, true, []refusedRow{
		{"ret; ret; ret | 2 1 0", 2},
		{"leb; leb; ret; flag -1; ret | 0 3", 1},
		{"leb; leb; ret; flag -1; ret | 3 0", 3},
	})
}

// P15.2: the first look: of what has a state the least number, not the one that was come to first.
func TestLeastFirst(t *testing.T) {
	refusedRows(t, false, []refusedRow{
		// Both of option's ways are wrong: the target lies ahead of the next one, or behind it.
		{"jump o; x: seq; ret; o: option x; seq; ret | 0", 1},
		{"option x; seq; ret; x: seq; ret | 0", 1},
		// A jump back, and a fault that stands between.
		{"jump o; x: seq; ret; o: option y; jump x; y: seq; ret | 0", 1},
		{"jump o; x: jump y; ret; o: option y; jump x; y: seq; ret | 0", 5},
		{"union 3; arm 0 c; arm 1 b; arm 2 a; a: seq; b: seq; c: seq | 0", 4},
		{"union 3; arm 0 c; arm 1 b; arm 2 a; a: bool 0; b: seq; c: seq | 0", 5},
		{"union 3; arm 0 c; arm 1 b; arm 2 a; a: bool 0; ret; b: bool 0; ret; c: seq | 0", 8},
		// The one that is come to in another state is at fault at once, others with lesser numbers are not looked at.
		{"union 2; arm 0 a; arm 1 b; a: bool 0; b: jump c; c: seq | 0", 4},
		{"union 2; arm 0 c; arm 1 a; a: bool 0; b: jump c; c: jump d; d: seq | 0", 5},
		{"union 3; arm 0 c; arm 1 a; arm 2 b; a: jump x; b: seq; x: bool 0; y: jump c; c: jump d; d: ret | 0", 5},
		// The ways in their order: the first that is wrong.
		{"jump o; x: jump y; y: ret; o: option x; jump z; z: seq; ret; q: seq; jump x | 7 0", 1},
	})
	refusedRows(t, true, []refusedRow{
		{"jump o; x: leb; ret; o: maybe x; ret | 0", 1},
		{"maybe x; ret; x: leb; ret | 0", 1},
		{"choice 3; arm 0 c; arm 1 b; arm 2 a; a: ret; b: ret; c: ret | 0", 4},
		{"choice 3; arm 0 c; arm 1 b; arm 2 a; a: leb; ret; b: leb; ret; c: ret | 0", 8},
	})
}

// P15.2: the first look of all types comes ahead of the second look of any.
func TestFirstLookFirst(t *testing.T) {
	refusedRows(t, false, []refusedRow{
		{"seq; a: jump a; ret | 0 2", 2},
		{"seq; a: item 3 r; jump a; r: ret; bool 0; ret | 0 4", 4},
		{"seq; ret; call -1 0; ret; bool 0; ret | 0 2 4", 4},
		{"seq; a: jump a; ret | 0 0", 1},
		{"union 2; arm 0 a; arm 1 b; a: jump a; b: seq | 0", 4},
	})
	refusedRows(t, true, []refusedRow{
		{"many 9; a: jump a; ret | 0 2", 2},
		{"upto 9; a: again a; ret; ret | 0 3", 3},
	})
}

// P15.2: the second look: the types by their numbers, of each the least one at fault, of either kind.
func TestSecondLookInOrder(t *testing.T) {
	refusedRows(t, false, []refusedRow{
		// Rings of two types.
		{"seq; a: jump a; seq; b: jump b | 0 2", 1},
		{"seq; a: jump a; seq; b: jump b | 2 0", 3},
		// Calls of a type that doesn't pay, of two types.
		{"seq; ret; a: call -1 0; ret; b: call -1 0; ret | 0 a b", 2},
		{"seq; ret; a: call -1 0; ret; b: call -1 0; ret | 0 b a", 4},
		// A ring and such a call in one routine: the lesser number.
		{"jump s; a: call 1 0; jump b; s: struct; call 0 0; jump a; b: jump b; t: seq; ret | t 0", 1},
		{"jump s; a: jump a; s: struct; call 0 0; jump a; t: seq; ret | t 0", 1},
		{"jump s; a: jump b; b: jump a; s: struct; call 0 0; jump a; t: seq; ret | t 0", 1},
		{"struct; call 0 0; a: jump a; t: seq; ret | t 0", 1},
		// Several rings, and their members: the least.
		{"jump s; a: jump b; b: jump a; s: seq; c: item 9 a; c2: item 9 a; d: jump d | 0", 1},
		{"jump s; ret; b: jump c; s: seq; jump d; c: jump b; d: jump b | 0", 2},
		// In a later type, of code that it shares: the least of all that its entry leads to.
		{"a: jump a; seq; jump a | 1", 0},
		{"jump e; x: call 1 0; ret; e: struct; call 0 0; jump x; t: seq; ret | t 0", 1},
		{"x: call -1 0; ret; t: seq; ret; jump x; jump x | t 4 5", 0},
	})
}

// P15.2: of an instruction that several types lead to, the first of these that makes it one at fault.
func TestSharedCalls(t *testing.T) {
	leaf := "; t: seq; ret"
	// Behind a uint the call may stand; a later type comes to it with nothing taken.
	faultIs(t, written(false, "option r; x: call -1 0; r: ret"+leaf+" | t 0"), ok)
	faultIs(t, written(false, "option r; x: call -1 0; r: ret"+leaf+" | t 0 x"), bad(1))
	faultIs(t, written(false, "option r; x: call -1 0; r: ret; y: jump x"+leaf+" | t 0 y"), bad(1))
	faultIs(t, written(false, "y: jump x; option r; x: call -1 0; r: ret; a: jump a"+leaf+" | t 1 0"), bad(2))
	faultIs(t, written(false, "p: uint 0 1; x: call 1 0; ret; s: struct; jump p; u: struct; uint 0 1; jump x"+leaf+" | t s u u"), ok)
	// A ring that a later type alone leads to.
	faultIs(t, written(false, "a: jump a; seq; ret; seq; jump a | 1 3"), bad(0))
	faultIs(t, written(false, "seq; ret; y: jump a; a: seq; i: item 9 r; jump i; r: ret | 0 y"), bad(4))
}
