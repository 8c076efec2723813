package sound_test

import (
	"fmt"
	"strings"
	"testing"

	"mortise/api"
)

// times: a text so often, %d in it being the number of the time.
func times(n int, text string) string {
	var s strings.Builder
	for k := range n {
		s.WriteString(strings.ReplaceAll(text, "%d", fmt.Sprint(k)))
	}
	return s.String()
}

// P15.2: kids at -1, 0 and the last, one that is filled twice, and uints over one that is filled.
func TestKids(t *testing.T) {
	takenRows(t, false, [][2]string{
		{"struct; uints 0 64 1; ret | 0", "0 2 66"},
		{"struct; uints 62 2 1; uints 0 62 1; ret | 0", "0 2 4 66"},
		{"struct; uint 63 1; uints 0 63 1; ret | 0", "0 2 3 66"},
		{"struct; uint 1 1; uint 0 1; varint 2; bool 3; ret | 0", "0 2 3 4 5 6"},
		{"option r; uint 0 1; r: ret | 0", "0 2 1"},
		{"option r; uint -1 1; r: ret | 0", "0 2 1"},
	})
	all := written(false, "struct;"+times(64, "uint %d 1;")+"ret | 0")
	shape := []int{0}
	for k := range 65 {
		shape = append(shape, 2+k)
	}
	shapeIs(t, all, shape...)
	for k := range 64 {
		for _, again := range []string{"uint %d 1", "bool %d", "varint %d"} {
			faultIs(t, written(false, "struct;"+times(64, "uint %d 1;")+strings.ReplaceAll(again, "%d", fmt.Sprint(k))+"; ret | 0"), bad(65))
		}
	}
	refusedRows(t, false, []refusedRow{
		{"struct; uint -1 1; ret | 0", 1},
		{"struct; uint 0 1; uint 0 1; ret | 0", 2},
		{"struct; uint 63 1; uint 63 1; ret | 0", 2},
		{"struct; uint 0 1; uints 0 2 1; ret | 0", 2},
		{"struct; uint 1 1; uints 0 2 1; ret | 0", 2},
		{"struct; uint 2 1; uints 0 3 1; ret | 0", 2},
		{"struct; uints 0 2 1; uints 1 2 1; ret | 0", 2},
		{"struct; uint 63 1; uints 0 64 1; ret | 0", 2},
		{"uints 0 2 1; ret | 0", 0},
		{"seq; uints 0 2 1; ret | 0", 1},
		{"option r; uints 0 2 1; r: ret | 0", 1},
		{"uint -1 1; uints 0 2 1; ret | 0", 1},
		{"option r; uint 1 1; r: ret | 0", 1},
		{"option r; uint 63 1; r: ret | 0", 1},
		{"seq; uint 0 1; ret | 0", 1},
		{"uint 63 1; ret | 0", 0},
	})
}

// P15.2: a struct at its ret, with a gap and without one.
func TestStructEnds(t *testing.T) {
	for gap := range 64 {
		text := "struct;"
		for k := range 64 {
			if k != gap {
				text += fmt.Sprintf("bool %d;", k)
			}
		}
		p := written(false, text+"ret | 0")
		if gap == 63 {
			faultIs(t, p, ok)
			continue
		}
		faultIs(t, p, bad(64))
	}
	for last := range 64 {
		faultIs(t, written(false, "struct;"+times(last+1, "bool %d;")+"ret | 0"), ok)
	}
	refusedRows(t, false, []refusedRow{{"struct; ret | 0", 1}, {"struct; bool 63; ret | 0", 2}, {"struct; bool 1; ret | 0", 2}})
}

// P15.2: the table of a struct, at MaxFields and above; parts out of their order and beyond it; tails beyond the parts.
func TestTables(t *testing.T) {
	const leaf = "; t: bool -1; ret | t 0"
	full := "struct;" + times(64, "offset 4;") + times(64, "part %d %d 0; tail %d;") + "ret"
	faultIs(t, written(false, full+leaf), ok)
	faultIs(t, written(false, "struct;"+times(65, "offset 4;")+"ret"+leaf), bad(65))
	// Parts may be called of kids in any order, and some not at all; tails may be asked again.
	faultIs(t, written(false, "struct; offset 8; offset 4; offset 16777216; part 1 0 0; part 0 1 0; tail 1; tail 0; tail 0; ret"+leaf), ok)
	refusedRows(t, false, []refusedRow{
		{"struct; offset 8; offset 4; part 0 1 0; ret" + leaf, 3},
		{"struct; offset 8; offset 4; part 0 0 0; part 1 0 0; ret" + leaf, 4},
		{"struct; offset 8; offset 4; part 0 0 0; part 1 2 0; ret" + leaf, 4},
		{"struct; offset 8; part 0 0 0; part 1 1 0; ret" + leaf, 3},
		{"struct; offset 8; part 0 0 0; part 0 1 0; ret" + leaf, 3},
		{"struct; offset 8; offset 8; part 0 0 0; part 0 1 0; ret" + leaf, 4},
		{"struct; offset 8; offset 8; part 0 0 0; offset 8; ret" + leaf, 4},
		{"struct; part 0 0 0; ret" + leaf, 1},
		{"struct; offset 8; offset 8; part 0 0 0; tail 1; ret" + leaf, 4},
		{"struct; offset 8; offset 8; tail 0; ret" + leaf, 3},
		{"struct; offset 8; part 0 0 0; tail 63; ret" + leaf, 3},
		{"struct; offset 8; part 0 0 0; tail -1; ret" + leaf, 3},
		{"struct; offset 8; part -1 -1 0; ret" + leaf, 2},
		{"option r; part 0 0 0; r: ret" + leaf, 1},
		{"seq; offset 8; part 0 0 0; ret" + leaf, 2},
		{"seq; offset 8; tail 0; ret" + leaf, 2},
		{"seq; tail -1; ret" + leaf, 1},
	})
}

// P15.2: an offset with a first at and above 4 times MaxCount: just of a seq that was gone into just now it is asked.
func TestFirstOfOffset(t *testing.T) {
	takenRows(t, false, [][2]string{
		{"seq; a: offset 4194304; slots a; ret | 0", "0 2 2 2"},
		{"seq; offset 4; slots a; ret; a: offset 4194308; ret | 0", "0 2 2 2 2 2"},
		{"seq; offset 4; slots a; ret; a: offset 16777216; ret | 0", "0 2 2 2 2 2"},
		{"struct; offset 16777216; uint 0 1; ret | 0", "0 2 2 3"},
		{"jump s; s: seq; jump o; o: offset 4194304; ret | 0", "0 0 2 2 2"},
	})
	refusedRows(t, false, []refusedRow{
		{"seq; offset 4194305; ret | 0", 1},
		{"seq; offset 4194308; ret | 0", 1},
		{"seq; offset 16777216; ret | 0", 1},
		{"seq; jump o; o: offset 4194305; ret | 0", 2},
	})
}

// P15.2: each thing that is free, behind what finds it, and behind what comes between.
func TestFree(t *testing.T) {
	const leaf = "; t: bool -1; ret | t 0"
	takenRows(t, false, [][2]string{
		{"seq; jump a; a: jump b; b: uint -1 1; ret | 0", "0 2 2 2 2"},
		{"seq; item 9 r; jump a; a: jump b; b: uint -1 1; r: ret | 0", "0 2 2 2 2 2"},
		{"seq; offset 4; slots a; r: ret; a: jump b; b: offset 8; ret | 0", "0 2 2 2 2 2 2"},
		{"seq; offset 4; parts a; r: ret; a: jump b; b: part -1 -1 0; ret" + leaf, "0 2 2 2 2 2 2 0 1"},
		{"seq; offset 4; item 9 r; uint -1 1; r: ret | 0", "0 2 2 2 2"},
	})
	refusedRows(t, false, []refusedRow{
		{"seq; uint -1 1; uint -1 1; ret | 0", 2},
		{"seq; uint -1 1; offset 4; ret | 0", 2},
		{"seq; offset 4; uint -1 1; ret | 0", 2},
		{"seq; offset 4; offset 4; ret | 0", 2},
		{"seq; item 9 r; offset 4; r: ret | 0", 2},
		{"seq; item 9 r; ret; r: uint -1 1; ret | 0", 3},
		{"seq; less 9 a; uint -1 1; a: ret | 0", 2},
		{"seq; first 9 a; uint -1 1; a: ret | 0", 2},
		{"seq; first 9 a; ret; a: uint -1 1; ret | 0", 3},
		{"seq; first 9 a; offset 4; a: ret | 0", 2},
		{"seq; first 9 a; ret; a: offset 4; ret | 0", 3},
		{"seq; offset 4; slots a; offset 4; ret; a: ret | 0", 3},
		{"seq; offset 4; slots a; ret; a: uint -1 1; ret | 0", 4},
		{"seq; offset 4; slots a; ret; a: tail -1; offset 4; ret | 0", 5},
		{"seq; offset 4; parts a; part -1 -1 0; ret; a: ret" + leaf, 3},
		{"seq; offset 4; parts a; ret; a: uint -1 1; ret | 0", 4},
		{"seq; offset 4; parts a; ret; a: call -1 0; ret" + leaf, 4},
		{"seq; offset 4; parts a; ret; a: part -1 -1 0; part -1 -1 0; ret" + leaf, 5},
		{"seq; part -1 -1 0; ret" + leaf, 1},
		{"seq; item 9 r; part -1 -1 0; r: ret" + leaf, 2},
		{"seq; item 9 r; item 9 r; jump i; i: ret; r: uint -1 1; ret | 0", 5},
		{"seq; slots a; a: ret | 0", 1},
		{"seq; parts a; a: ret | 0", 1},
		{"seq; offset 4; first 9 a; a: ret | 0", 2},
		{"seq; first 9 r; first 9 r; r: ret | 0", 2},
	})
}

// P15.2: what is called is of a type below the routine's own.
func TestTypesBelow(t *testing.T) {
	for _, c := range []struct {
		encodes bool
		text    string // of type 1, calling type %d
		at      int
	}{
		{false, "call -1 %d; ret", 0}, {false, "struct; call 0 %d; ret", 1}, {false, "struct; offset 4; part 0 0 %d; ret", 2}, {false, "seq; offset 4; parts a; ret; a: part -1 -1 %d; ret", 4},
		{true, "enter 0 %d; ret", 0}, {true, "append %d; ret", 0}, {true, "many 3; a: each 4 %d; again a; ret", 1}, {true, "many 3; a: append %d; again a; ret", 1},
	} {
		leaf := "; t: bool -1; ret"
		if c.encodes {
			leaf = "; t: leb; ret"
		}
		for called := range 3 {
			p := written(c.encodes, strings.ReplaceAll(c.text, "%d", fmt.Sprint(called))+leaf+" | t 0 t")
			if called == 0 {
				faultIs(t, p, ok)
			} else {
				faultIs(t, p, bad(c.at))
			}
		}
		// The same instructions as a later type's may call more, as the first of them no type at all.
		faultIs(t, written(c.encodes, strings.ReplaceAll(c.text, "%d", "1")+leaf+" | t t 0"), ok)
		faultIs(t, written(c.encodes, strings.ReplaceAll(c.text, "%d", "1")+leaf+" | t t 0 0"), ok)
		faultIs(t, written(c.encodes, strings.ReplaceAll(c.text, "%d", "0")+leaf+" | 0"), bad(c.at))
	}
}

// P15.2: an arm can't be come to: as an entry, as a target, from the one ahead.
func TestArms(t *testing.T) {
	refusedRows(t, false, []refusedRow{
		{"arm 0 1; ret | 0", 0},
		{"uint -1 1; arm 0 0; ret | 0", 1},
		{"jump a; a: arm 0 0; ret | 0", 1},
		{"union 1; a: arm 0 a; ret | 0", 1},
		{"union 2; arm 0 b; b: arm 1 x; x: uint 0 1; ret | 0", 2},
		{"union 1; arm 0 x; x: uint 0 1; ret; seq; arm 3 0 | 0 4", 5},
		{"option a; uint 0 1; ret; a: arm 5 0; ret | 0", 3},
	})
	refusedRows(t, true, []refusedRow{
		{"arm 0 1; ret | 0", 0},
		{"leb; arm 0 0; ret | 0", 1},
		{"choice 1; a: arm 0 a; ret | 0", 1},
		{"choice 1; arm 0 x; x: leb; ret; many 3; arm 3 0 | 0 4", 5},
	})
	// Each arm's target is come to, in their order; those that are alike too.
	takenRows(t, false, [][2]string{
		{"union 3; arm 0 x; arm 255 y; arm 7 x; x: bool 0; ret; y: varint 0; ret | 0", "0 -1 -1 -1 2 1 2 1"},
		{"union 64;" + times(64, "arm %d x;") + "x: bool -1; ret | 0", "0" + times(64, " -1") + " 2 1"},
	})
	takenRows(t, true, [][2]string{
		{"choice 3; arm 0 x; arm 255 y; arm 7 x; x: leb; ret; y: flag 9; ret | 0", "0 -1 -1 -1 2 1 2 1"},
		{"choice 64;" + times(64, "arm %d x;") + "x: leb; ret | 0", "0" + times(64, " -1") + " 2 1"},
	})
	for k := range 64 {
		// One arm alone leads to something that can't stand there.
		text := "union 64;"
		other := "choice 64;"
		for n := range 64 {
			to := "x"
			if n == k {
				to = "y"
			}
			text += fmt.Sprintf("arm %d %s;", n, to)
			other += fmt.Sprintf("arm %d %s;", n, to)
		}
		faultIs(t, written(false, text+"x: bool 0; ret; y: ret | 0"), bad(67))
		faultIs(t, written(true, other+"x: leb; ret; y: ret | 0"), bad(67))
	}
}

// P15.2: the last instruction of the code has no next one: each instruction that wants one is at fault there, whatever its target is.
func TestNoNext(t *testing.T) {
	for _, encodes := range []bool{false, true} {
		states, rows := decoderStates, decoderRows
		if encodes {
			states, rows = encoderStates, encoderRows
		}
		for _, r := range rows {
			if strings.Contains(r.text, ";") {
				continue
			}
			for state, behind := range r.handed() {
				// The routine of what is called stands ahead; the last instruction is x itself.
				leaf := "bool -1; ret; m: "
				if encodes {
					leaf = "leb; ret; m: "
				}
				text := leaf + states[state] + "x: " + r.at("x") + " | 0 m 0"
				p := written(encodes, text)
				f := modelAll(t, p)
				if behind[0] != "" && f != bad(len(p.Code)-1) {
					t.Errorf("P15.2: Verify(%s) = %v, want a fault at the last instruction", brief(p), f)
				}
			}
		}
	}
	for _, text := range []string{"seq; ret", "seq; r: jump q; q: ret", "uint -1 1; ret; jump 0"} {
		faultIs(t, written(false, text+"; jump 0 | 0"), ok)
	}
	// Behind a union or choice nothing is wanted but its arms.
	shapeIs(t, written(false, "jump u; x: bool 0; ret; u: union 1; arm 0 x | 0"), 0, 2, 1, 0, -1)
	shapeIs(t, written(true, "jump u; x: leb; ret; u: choice 1; arm 0 x | 0"), 0, 2, 1, 0, -1)
}

// P15.2: of an encoder: what is left, one by one, up to MaxFields and at none.
func TestLeft(t *testing.T) {
	for n := 1; n <= 64; n++ {
		head := fmt.Sprintf("fields %d;", n)
		p := written(true, head+times(n, "number %d 1;")+"ret | 0")
		shape := []int{0}
		for k := range n + 1 {
			shape = append(shape, 1+n-k)
		}
		shapeIs(t, p, shape...)
		faultIs(t, written(true, head+times(n+1, "leb;")+"ret | 0"), bad(n+1))
		faultIs(t, written(true, head+times(n-1, "leb;")+"ret | 0"), bad(n))
		if n > 1 {
			shapeIs(t, written(true, head+fmt.Sprintf("numbers 0 %d 1; ret | 0", n)), 0, 1+n, 1)
		}
		if n > 1 && n < 64 {
			faultIs(t, written(true, head+fmt.Sprintf("numbers 0 %d 1; ret | 0", n+1)), bad(1))
			faultIs(t, written(true, fmt.Sprintf("fields %d; numbers 0 %d 1; ret | 0", n+1, n)), bad(2))
		}
	}
}

// P15.3: the number of every state, and -1 where there is none.
func TestShapes(t *testing.T) {
	takenRows(t, false, [][2]string{
		{"jump a; a: uint -1 1; jump b; b: ret; ret | 0", "0 0 1 1 -1"},
		{"jump a; ret; a: seq; jump b; b: ret | 0", "0 -1 0 2 2"},
		{"option r; jump a; a: uint 0 1; r: ret; ret; jump 0 | 0", "0 2 2 1 -1 -1"},
		{"union 1; arm 0 x; ret; x: jump y; y: uint 0 1; ret | 0", "0 -1 -1 2 2 1"},
		{"struct; jump a; a: uint 1 1; jump b; b: uint 0 1; jump c; c: ret | 0", "0 2 2 3 3 4 4"},
		{"struct; offset 4; offset 4; part 1 0 0; tail 0; part 0 1 0; ret; t: bool -1; ret | t 0", "0 2 2 2 3 3 4 0 1"},
	})
	takenRows(t, true, [][2]string{
		{"jump a; a: leb; jump b; b: ret; ret | 0", "0 0 1 1 -1"},
		{"jump a; ret; a: many 3; room 4; jump b; b: slot -1; append 0; again b; ret; t: leb; ret | t 0", "0 -1 0 66 66 66 66 66 1 0 1"},
		{"fields 64; room 4; slot 3; numbers 0 62 1; jump a; a: leb; append 0; ret; ret; t: leb; ret | t 0", "0 65 65 65 3 3 2 1 -1 0 1"},
		{"maybe r; slot 0; append 0; r: ret; t: leb; ret | t 0", "0 2 2 1 0 1"},
	})
}

// P15.3: of one code as a decoder's and an encoder's: arm, jump and ret are both machines'.
func TestBothMachines(t *testing.T) {
	for _, encodes := range []bool{false, true} {
		faultIs(t, written(encodes, "ret | 0"), bad(0))
		faultIs(t, written(encodes, "jump 1; ret | 0"), bad(1))
		faultIs(t, written(encodes, "jump 0 | 0"), bad(0))
		faultIs(t, written(encodes, "arm 0 0 | 0"), bad(0))
	}
	p := written(false, "uint -1 1; ret | 0")
	p.Encodes = true
	faultIs(t, p, api.Fault{Err: api.ErrOp})
}
