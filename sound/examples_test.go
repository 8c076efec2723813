package sound_test

import (
	"testing"

	"mortise/api"
)

// P15.2, P15.3: the worked examples of the decoder. Where a row tells no shape, it is written here.
func TestExamplesDecoder(t *testing.T) {
	takenRows(t, false, [][2]string{
		{"", ""},
		{"uint -1 2; ret | 0", "0 1"},
		{"struct; uint 1 1; uint 0 1; ret | 0", "0 2 3 4"},
		{"seq; a: uint -1 1; less 3 a; ret | 0", "0 2 2 2"},
		{"seq; a: offset 12; slots a; jump p; b: part -1 -1 0; tail -1; p: parts b; ret; l: seq; ret | l 0", "0 2 2 2 2 2 2 2 0 2"},
		{"struct; offset 4; part 0 0 0; tail 0; ret; l: seq; ret | l 0", "0 2 2 3 3 0 2"},
		{"option r; call 0 0; r: ret; l: seq; ret | l 0", "0 2 1 0 2"},
	})
	refusedRows(t, false, []refusedRow{
		{"ret | 0", 0},
		{"uint -1 2 | 0", 0},
		{"uint -1 2; uint -1 2; ret | 0", 1},
		{"uint 0 2; ret | 0", 0},
		{"struct; uint 0 1; uint 2 1; ret | 0", 3},
		{"seq; a: uint -1 1; jump a | 0", 1},
		{"seq; a: jump a | 0", 1},
		{"seq; a: item 3 r; jump a; r: ret | 0", 1},
		{"struct; part 0 0 0; tail 0; ret; l: seq; ret | l 0", 1},
		{"struct; call 0 0; ret; l: seq; ret | l 0", 1},
		{"call -1 0; ret | 0", 0},
		{"option r; a: uint 0 1; jump a; r: ret | 0", 1},
	})
}

// P15.2, P15.3: the worked examples of the encoder.
func TestExamplesEncoder(t *testing.T) {
	takenRows(t, true, [][2]string{
		{"", ""},
		{"number 0 2; ret | 0", "0 1"},
		{"many 3; a: number -1 1; again a; ret | 0", "0 66 66 1"},
		{"upto 3; jump g; a: number -1 1; g: again a; ret | 0", "0 66 66 66 1"},
	})
	refusedRows(t, true, []refusedRow{
		{"fields 2; number 0 1; ret | 0", 2},
		{"upto 3; a: number -1 1; again a; ret | 0", 1},
	})
}

// P15.2: the routines that chapter 14 shows, of each kind of type, are taken.
func TestExampleRoutines(t *testing.T) {
	takenRows(t, false, [][2]string{
		{"uint -1 2; ret; l: seq; i: item 9 r; call -1 0; jump i; r: ret | 0 l", "0 1 0 2 2 2 2"},
		{"uint -1 8; ret; bool -1; ret; varint -1; ret | 0 2 4", "0 1 0 1 0 1"},
		{"seq; a: uint -1 1; less 3 a; ret | 0", "0 2 2 2"},
		{"varint -1; ret; l: seq; first 9 r; jump s; a: offset 4; s: slots a; jump p; b: part -1 -1 0; tail -1; p: parts b; r: ret | 0 l", "0 1 0 2 2 2 2 2 2 2 2 2"},
		{"seq; ret; s: struct; uint 0 1; offset 6; uint 2 1; part 1 0 0; tail 0; ret | 0 s", "0 2 0 2 3 3 4 5 5"},
		{"bool -1; ret; varint -1; ret; u: union 2; arm 1 x; arm 7 y; x: bool 0; jump r; y: varint 0; r: ret | 0 2 u", "0 1 0 1 0 -1 -1 2 1 2 1"},
	})
	takenRows(t, true, [][2]string{
		{"number 0 8; ret; flag 0; ret; leb; ret | 0 2 4", "0 1 0 1 0 1"},
		{"fields 1; number 0 1; ret; l: upto 9; jump g; a: each 5 0; g: again a; ret | 0 l", "0 2 1 0 66 66 66 1"},
		{"leb; ret; l: upto 9; room -1; jump g; a: slot -1; append 0; g: again a; ret | 0 l", "0 1 0 66 66 66 66 66 1"},
		{"leb; ret; l: many 9; room -1; a: slot -1; append 0; again a; ret | 0 l", "0 1 0 66 66 66 66 1"},
		{"upto 5; jump g; a: flag -1; g: again a; ret; s: fields 3; room 6; number 0 1; slot 1; append 0; number 5 1; ret | 0 s", "0 66 66 66 1 0 4 4 3 3 2 1"},
		{"leb; ret; o: maybe r; append 0; r: ret; c: choice 2; arm 0 x; arm 9 y; x: append 0; ret; y: append 0; ret | 0 o c", "0 1 0 2 1 0 -1 -1 2 1 2 1"},
	})
}

// P15.2, P15.3: programs of no instructions, of no types, and of neither.
func TestNothingThere(t *testing.T) {
	for _, encodes := range []bool{false, true} {
		shapeIs(t, api.Program{Encodes: encodes})
		shapeIs(t, api.Program{Encodes: encodes, Code: []api.Instr{}, Entry: []int{}})
		shapeIs(t, written(encodes, "ret; jump 1; arm 5 0; ret"), -1, -1, -1, -1)
		faultIs(t, api.Program{Encodes: encodes, Entry: []int{0}}, api.Fault{Err: api.ErrPlace})
	}
}
