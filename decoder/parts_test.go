package decoder_test

import "testing"

// P23.3 to P23.5: offset: the first one is as long as the fixed part, a further one not below the one ahead; none leads behind the window's end. Its place is its first byte's.
func TestOffset(t *testing.T) {
	const two = "empty: seq; ret; two: struct; offset 8; offset 8; part 0 0 0; part 1 1 0; ret | empty two"
	codeRuns(t, two,
		run{"", "", "0 1 1 1", "20 at 0", ""},
		run{"08 00 00", "", "3 1 1 1", "20 at 3", ""},
		run{"07 00 00 00", "122 at 0", "4 1 1 1", "", ""},
		run{"09 00 00 00", "122 at 0", "4 1 1 1", "", ""},
		run{"00 00 00 00", "122 at 0", "4 1 1 1", "", ""},
		run{"08 01 00 00", "122 at 0", "4 1 1 1", "", ""},
		run{"08 00 00 01", "122 at 0", "4 1 1 1", "", ""},
		run{"08 00 00 00", "", "4 2 1 1", "20 at 4", ""},
		run{"08 00 00 00 07 00 00 00", "122 at 4", "8 2 1 1", "", ""},
		run{"08 00 00 00 00 00 00 00 01", "122 at 4", "8 2 1 1", "", ""},
		run{"08 00 00 00 08 00 00", "", "7 2 1 1", "20 at 7", ""},
		run{"08 00 00 00 08 00 00 00", "", "8 10 3 2", "{[], []}", ""},
		// No tail asks whether the first part has been read up to its end.
		run{"08 00 00 00 ff ff ff ff", "", "8 10 3 2", "{[], []}", ""})
	// Only the first one is asked what it is.
	codeRuns(t, "empty: seq; ret; two: struct; offset 4; offset 999; offset 4; part 0 0 0; ret | empty two",
		run{"04 00 00 00 04 00 00 00 04 00 00 00", "", "12 8 2 2", "{[]}", ""},
		run{"04 00 00 00 05 00 00 00 04 00 00 00", "122 at 8", "12 3 1 1", "", ""})
	codeRuns(t, "empty: seq; ret; two: struct; bool 0; offset 16777216; part 1 0 0; ret | empty two",
		run{"01 00 00 00 01", "", "5 7 3 2", "{true, []}", ""},
		run{"01 ff ff ff 00", "122 at 1", "5 2 2 1", "", ""})
}

// P23.3: offsets in a window: up to its end they may lead.
func TestOffsetInWindow(t *testing.T) {
	// The inner routine's part may be read by nothing: its frame has no type below it.
	const inner = "seq; offset 4; ret"
	windowRuns(t, inner, 4, run{"04 00 00 00", "", "12 12 3 2", "{[], []}", ""}, run{"05 00 00 00", "122 at 8", "12 5 2 2", "", ""})
	windowRuns(t, inner, 3,
		run{"04 00", "", "10 5 2 2", "20 at 10", ""},
		run{"04 00 00", "20 at 11", "11 5 2 2", "", ""},
		run{"05 00 00 00", "20 at 11", "11 5 2 2", "", ""})
	const pair = "struct; offset 8; offset 8; bool 0; ret"
	windowRuns(t, pair, 9,
		run{"08 00 00 00 09 00 00 00 01", "", "17 14 4 2", "{{true}, []}", ""},
		run{"08 00 00 00 0a 00 00 00", "122 at 12", "16 6 2 2", "", ""},
		run{"08 00 00 00 07 00 00 00", "122 at 12", "16 6 2 2", "", ""})
	windowRuns(t, "struct; offset 12; bool 0; ret", 11, run{"0c 00 00 00", "122 at 8", "12 5 2 2", "", ""})
	windowRuns(t, "struct; offset 12; bool 0; ret", 12, run{"0c 00 00 00 01", "124 at 13", "13 8 3 2", "", ""})
}

// list: of at most two variable items, as chapter 16 has it; each item is a varint.
const list = "v: varint -; ret; l: seq; first 2 r; jump s; a: offset 4; s: slots a; jump p; b: part - - 0; tail -; p: parts b; r: ret | v l"

// P23.3 to P23.5: first: at the end, and its errors, the one ahead of the other.
func TestFirst(t *testing.T) {
	codeRuns(t, list,
		run{"", "", "0 1 1 1", "[]", "0 3 1 1"},
		run{"04", "", "1 1 1 1", "20 at 1", ""},
		run{"04 00 00", "", "3 1 1 1", "20 at 3", ""},
		run{"00 00 00 00", "122 at 0", "4 1 1 1", "", ""},
		run{"03 00 00 00", "122 at 0", "4 1 1 1", "", ""},
		run{"06 00 00 00", "122 at 0", "4 1 1 1", "", ""},
		run{"0c 00 00 00", "121 at 0", "4 1 1 1", "", ""},
		run{"0d 00 00 00", "122 at 0", "4 1 1 1", "", ""},
		run{"fc ff ff ff 00", "121 at 0", "4 1 1 1", "", ""},
		run{"04 00 00 00", "", "4 7 1 2", "20 at 4", ""},
		run{"04 00 00 00 05", "", "5 12 2 2", "[5]", ""},
		run{"04 00 00 00 05 06", "124 at 5", "6 12 2 2", "", ""},
		run{"08 00 00 00", "", "4 4 1 1", "20 at 4", ""},
		run{"08 00 00 00 09 00 00 00 05 06", "", "10 19 3 2", "[5, 6]", ""},
		run{"08 00 00 00 09 00 00 00 85 01 06", "20 at 9", "9 9 1 2", "", ""},
		run{"08 00 00 00 0a 00 00 00 05 06", "124 at 9", "9 11 2 2", "", ""},
		run{"08 00 00 00 07 00 00 00", "122 at 4", "8 4 1 1", "", ""})
}

// P23.3: first in a window: at the end, at once; ErrOffset ahead of ErrCount.
func TestFirstInWindow(t *testing.T) {
	const alone = "seq; first 2 r; r: ret"
	windowRuns(t, alone, 0, run{"", "", "8 12 3 2", "{[], []}", ""}, run{"04", "124 at 8", "9 12 3 2", "", ""})
	windowRuns(t, alone, 2,
		run{"04", "", "9 5 2 2", "20 at 9", ""},
		run{"00 00 00 00", "20 at 10", "10 5 2 2", "", ""})
	windowRuns(t, alone, 4,
		run{"04 00 00 00", "", "12 12 3 2", "{[], []}", ""},
		run{"08 00 00 00", "122 at 8", "12 5 2 2", "", ""},
		run{"0c 00 00 00", "122 at 8", "12 5 2 2", "", ""})
	windowRuns(t, alone, 12,
		run{"0c 00 00 00", "121 at 8", "12 5 2 2", "", ""},
		run{"10 00 00 00", "122 at 8", "12 5 2 2", "", ""},
		run{"02 00 00 00", "122 at 8", "12 5 2 2", "", ""},
		run{"08 00 00 00", "124 at 12", "12 7 2 2", "", ""})
}

// P23.3, P23.5: slots: as many positions as a quarter of the first one says, rounded down; counted from where the value begins.
func TestSlots(t *testing.T) {
	for _, c := range []struct {
		first, bytes, told, end string
	}{
		{"4", "04000000", "4 4 1 1", "[]"},
		{"7", "07000000", "4 4 1 1", "[]"},
		{"8", "08000000 08000000", "8 6 1 1", "[]"},
		{"11", "0b000000 0b000000", "8 6 1 1", "[]"},
		{"12", "0c000000 0c000000 0c000000", "12 8 1 1", "[]"},
	} {
		codeRuns(t, "seq; a: offset "+c.first+"; slots a; ret | 0", run{c.bytes, "", c.told, c.end, ""})
	}
	windowRuns(t, "seq; a: offset 11; slots a; ret", 16,
		run{"0b000000 0b000000", "124 at 16", "16 10 2 2", "", ""})
}

// P23.3 to P23.5: item: at the end, which a byte or the input's end tells, if the window is open; else an item, or one too many.
func TestItem(t *testing.T) {
	codeRuns(t, "seq; i: item 2 q; uint - 2; jump i; q: ret | 0",
		run{"", "", "0 1 1 1", "[]", "0 3 1 1"},
		run{"01", "", "1 2 1 1", "20 at 1", ""},
		run{"01 00", "", "2 4 2 1", "[1]", "2 6 2 1"},
		run{"01 00 02", "", "3 5 2 1", "20 at 3", ""},
		run{"01 00 02 00", "", "4 7 3 1", "[1, 2]", "4 9 3 1"},
		run{"01 00 02 00 03", "121 at 4", "5 7 3 1", "", ""},
		run{"01 00 02 00 03 00", "121 at 4", "5 7 3 1", "", ""})
	const inner = "seq; i: item 2 q; uint - 1; jump i; q: ret"
	windowRuns(t, inner, 0, run{"", "", "8 12 3 2", "{[], []}", ""})
	windowRuns(t, inner, 1, run{"", "", "8 6 2 2", "20 at 8", ""}, run{"05", "", "9 15 4 2", "{[5], []}", ""})
	windowRuns(t, inner, 2, run{"05 06", "", "10 18 5 2", "{[5, 6], []}", ""}, run{"05 06 07", "124 at 10", "11 18 5 2", "", ""})
	// One too many is known ahead of its byte.
	windowRuns(t, inner, 3, run{"05 06", "121 at 10", "10 11 4 2", "", ""}, run{"05 06 07", "121 at 10", "10 11 4 2", "", ""})
}

// P23.5: less: Next below the number.
func TestLess(t *testing.T) {
	codeRuns(t, "seq; a: bool -; less 1 a; ret | 0", run{"01", "", "1 4 2 1", "[true]", ""}, run{"01 01", "124 at 1", "2 4 2 1", "", ""})
	codeRuns(t, "seq; a: bool -; less 3 a; ret | 0",
		run{"01 00", "", "2 5 3 1", "20 at 2", ""},
		run{"01 00 01", "", "3 8 4 1", "[true, false, true]", ""})
	codeRuns(t, "seq; jump l; a: bool -; l: less 2 a; ret | 0", run{"01 00", "", "2 8 3 1", "[true, false]", ""})
}

// P23.4, P23.5: parts, and part with kid and part -1: each position has its part, whose end is the next one's position, or the frame's.
func TestParts(t *testing.T) {
	const rows = "u: uint - 1; ret; l: seq; i: item 9 q; call - 0; jump i; q: ret; v: seq; a: offset 8; slots a; jump p; b: part - - 1; tail -; p: parts b; ret | u l v"
	codeRuns(t, rows,
		run{"08000000 0a000000 01 02 03", "", "11 30 6 3", "[[1, 2], [3]]", "11 35 6 3"},
		run{"08000000 08000000", "", "8 15 3 2", "[[], []]", "8 20 3 2"},
		run{"08000000 09000000", "", "8 11 2 3", "20 at 8", ""})
	// Of what no part is called of nothing is asked.
	codeRuns(t, "e: seq; ret; v: seq; offset 4; parts b; ret; b: part - - 0; ret | e v",
		run{"04000000", "", "4 7 2 2", "[[]]", ""})
}

// P23.5: call: the frame's own end goes with it, and the value begins where the machine stands.
func TestCall(t *testing.T) {
	codeRuns(t, "u: uint - 2; ret; s: struct; call 1 0; call 0 0; ret | u s",
		run{"01", "", "1 2 1 2", "20 at 1", ""},
		run{"01 00 02 00", "", "4 8 3 2", "{2, 1}", ""})
	codeRuns(t, "u: uint - 1; ret; a: call - 0; ret; b: call - 1; ret | u a b",
		run{"", "", "0 2 0 3", "20 at 0", ""},
		run{"07", "", "1 6 1 3", "7", ""},
		run{"07 08", "124 at 1", "2 6 1 3", "", ""})
	codeRuns(t, "u: uint - 1; ret; o: option e; call 0 0; e: ret; n: union 1; arm 5 x; x: call - 1; ret | u o n",
		run{"05 01 07", "", "3 8 3 3", "<5:some 7>", ""},
		run{"05 00", "", "2 5 2 2", "<5:none>", ""})
	// The list's window is the one of the frame that calls it.
	const listed = "l: seq; i: item 9 q; bool -; jump i; q: ret; o: option e; call 0 0; e: ret; none: seq; ret; two: struct; offset 8; offset 8; part 0 0 1; tail 0; part 1 1 2; ret | l o none two"
	codeRuns(t, listed,
		run{"08000000 0a000000 01 01", "", "10 18 5 3", "{some [true], []}", ""},
		run{"08000000 0a000000 00", "124 at 9", "9 6 2 2", "", ""})
	// Offsets within what is called are counted from where it begins.
	codeRuns(t, "e: seq; ret; s: struct; offset 4; part 0 0 0; ret; l: struct; bool 0; call 1 1; ret | e s l",
		run{"01 04000000", "", "5 10 4 3", "{true, {[]}}", ""},
		run{"01 05000000", "122 at 1", "5 4 3 2", "", ""})
}

// P23.4, P23.5: part: the value begins where the machine stands, whatever its position says, and ends at the next position, if there is one.
func TestPart(t *testing.T) {
	// The part's position is 4; it begins at 5, as its offset is counted.
	codeRuns(t, "e: seq; ret; s: struct; offset 4; part 0 0 0; ret; o: struct; offset 4; bool 1; part 0 0 1; ret | e s o",
		run{"04000000 01 04000000", "", "9 11 4 3", "{{[]}, true}", ""},
		run{"04000000 01 05000000", "122 at 5", "9 5 3 2", "", ""})
	// Fewer positions than parts may be had: the last part ends with the frame.
	const items = "l: seq; i: item 9 q; bool -; jump i; q: ret; s: struct; offset 8; offset 8; part 1 0 0; part 0 1 0; ret | l s"
	codeRuns(t, items,
		run{"08000000 09000000 01 00 01", "", "11 18 6 2", "{[false, true], [true]}", "11 21 6 2"},
		// What the first one has left is the second one's.
		run{"08000000 08000000 01", "", "9 12 4 2", "{[true], []}", "9 15 4 2"})
	// More positions than parts: the first part has a window, the others none.
	codeRuns(t, "l: seq; i: item 9 q; bool -; jump i; q: ret; s: struct; offset 8; offset 8; part 0 0 0; ret | l s",
		run{"08000000 0a000000 01 00", "", "10 14 4 2", "{[true, false]}", ""},
		run{"08000000 09000000 01 00", "124 at 9", "10 11 3 2", "", ""})
}

// P23.3, P23.5: tail: bytes that are left in front of a known end, whether they have come or not; its place is the machine's.
func TestTail(t *testing.T) {
	const two = "u: uint - 1; ret; s: struct; offset 8; offset 8; part 0 0 0; part 1 1 0; tail 1; tail 0; ret | u s"
	codeRuns(t, two,
		// The last part's end is open.
		run{"08000000 09000000 05 06", "", "10 12 3 2", "{5, 6}", ""},
		run{"08000000 09000000 05 06 07", "124 at 10", "11 12 3 2", "", ""},
		run{"08000000 0a000000 05 06", "", "10 12 3 2", "{5, 6}", ""},
		run{"08000000 0b000000 05 06", "124 at 10", "10 10 3 2", "", ""})
	codeRuns(t, "u: uint - 1; ret; s: struct; offset 8; offset 8; part 0 0 0; tail 0; part 1 1 0; ret | u s",
		run{"08000000 0a000000 05", "124 at 9", "9 6 2 2", "", ""},
		run{"08000000 08000000 05", "20 at 8", "8 4 1 2", "", ""},
		run{"08000000 09000000 05 06", "", "10 11 3 2", "{5, 6}", ""})
	// Ahead of all parts it is the one of number -1, which ends at the first position.
	codeRuns(t, "seq; offset 4; tail -; ret | 0", run{"04000000", "", "4 4 1 1", "[]", ""})
	codeRuns(t, "seq; offset 5; tail -; ret | 0", run{"05000000", "124 at 4", "4 2 1 1", "", ""}, run{"05000000 00", "124 at 4", "4 2 1 1", "", ""})
	// Behind them it is the one that was called last.
	codeRuns(t, "u: uint - 1; ret; v: seq; a: offset 8; slots a; b: parts c; tail -; ret; c: part - - 0; jump b | u v",
		run{"08000000 0a000000 05 06", "", "10 18 3 2", "[5, 6]", ""})
	const inner = "e: seq; ret; s: struct; offset 4; part 0 0 0; tail 0; ret; none: seq; ret; two: struct; offset 8; offset 8; part 0 0 1; part 1 1 2; ret | e s none two"
	codeRuns(t, inner,
		run{"08000000 0d000000 04000000", "124 at 12", "12 9 3 3", "", ""},
		run{"08000000 0c000000 04000000", "", "12 15 4 3", "{{[]}, []}", ""})
}

// P23.3 to P23.5: jumps are steps; an arm that is by itself is never come to; behind the last ret a byte is one too many, and the end gives the value.
func TestThrough(t *testing.T) {
	codeRuns(t, "jump b; arm 3 1; a: bool -; jump c; b: jump a; c: ret | 0",
		run{"", "", "0 2 0 1", "20 at 0", ""},
		run{"01", "", "1 5 1 1", "true", ""},
		run{"01 01", "124 at 1", "2 5 1 1", "", ""})
	// Nothing is behind the end that the input has: also where nothing was read.
	codeRuns(t, "seq; ret | 0", run{"", "", "0 2 1 1", "[]", ""}, run{"07 08", "124 at 0", "1 2 1 1", "", ""})
}

// P23.2, P23.3: each type of a program has its own routine; several may have one.
func TestEachType(t *testing.T) {
	p := taken(t, "bool -; ret; uint - 2; ret; option e; call 0 0; e: ret | 0 2 0 4")
	for n, c := range []struct{ bytes, want string }{{"01", "true"}, {"0102", "513"}, {"00", "false"}, {"0101", "some true"}} {
		m := newMachine(t, p, n)
		m.Feed(unhex(c.bytes))
		if is := answered(m.End()); is != c.want {
			t.Errorf("P23.2: type %d of %s: %s: %s, want %s", n, brief(p), c.bytes, is, c.want)
		}
	}
}
