package decoder_test

import (
	"fmt"
	"strings"
	"testing"

	"mortise/api"
	"mortise/decoder"
)

// run: bytes, what Feed of them all answers (nothing, if it is OK), what At, Steps, Nodes and Depth tell then; what End answers behind it, and what they tell then, if that is not the same.
type run struct{ bytes, feed, told, end, endTold string }

// answered: as the rows write it.
func answered(v []api.Node, f api.Fault) string {
	switch {
	case f != ok:
		return fmt.Sprintf("%d at %d", f.Err, f.At)
	case len(v) > 0:
		return briefValue(v)
	}
	return ""
}

func tellsNow(m *decoder.Machine) string {
	return fmt.Sprint(m.At(), m.Steps(), m.Nodes(), m.Depth())
}

// codeRuns: rows of the last type of a program.
func codeRuns(t *testing.T, text string, rows ...run) {
	t.Helper()
	p := taken(t, text)
	n := len(p.Entry) - 1
	for k, r := range rows {
		b := unhex(r.bytes)
		if r.end == "" {
			r.end = r.feed
		}
		if r.endTold == "" {
			r.endTold = r.told
		}
		m := newMachine(t, p, n)
		if f := answered(nil, m.Feed(b)); f != r.feed || tellsNow(m) != r.told {
			t.Errorf("P23.3, P23.5: row %d of %s: Feed(%s) = %q, %s, want %q, %s", k, text, r.bytes, f, tellsNow(m), r.feed, r.told)
		}
		for range 2 {
			if is := answered(m.End()); is != r.end || tellsNow(m) != r.endTold {
				t.Errorf("P23.4, P23.5: row %d of %s: %s: End() = %q, %s, want %q, %s", k, text, r.bytes, is, tellsNow(m), r.end, r.endTold)
			}
		}
		if is := answered(decoder.Run(p, n, b)); is != r.end {
			t.Errorf("P23.7: row %d of %s: Run(%s) = %q, want %q", k, text, r.bytes, is, r.end)
		}
		d := dice(k)
		all(t, &d, p, n, b)
	}
}

// windowed: the routine as the first of two variable fields: at position 8, behind 4 steps (struct, two offsets and the part) and a node; in a window of so many bytes; what comes behind the window is not read.
func windowed(text string, size int) (code, bytes string) {
	return text + "; empty: seq; ret; two: struct; offset 8; offset 8; part 0 0 0; tail 0; part 1 1 1; ret | 0 empty two", fmt.Sprintf("08000000 %02x000000", 8+size)
}

// windowRuns: rows of a routine in a window; bytes: those within it, and behind.
func windowRuns(t *testing.T, text string, size int, rows ...run) {
	t.Helper()
	code, ahead := windowed(text, size)
	for k := range rows {
		rows[k].bytes = ahead + rows[k].bytes
	}
	codeRuns(t, code, rows...)
}

// P23.3 to P23.5: uint: its widths, bytes that are missing, bytes behind.
func TestUint(t *testing.T) {
	codeRuns(t, "uint - 1; ret | 0",
		run{"", "", "0 0 0 1", "20 at 0", ""},
		run{"05", "", "1 2 1 1", "5", ""},
		run{"ff", "", "1 2 1 1", "255", ""},
		run{"05 06", "124 at 1", "2 2 1 1", "", ""},
		run{"05 06 07", "124 at 1", "2 2 1 1", "", ""})
	codeRuns(t, "uint - 2; ret | 0",
		run{"01", "", "1 0 0 1", "20 at 1", ""},
		run{"01 02", "", "2 2 1 1", "513", ""},
		run{"01 02 03", "124 at 2", "3 2 1 1", "", ""})
	codeRuns(t, "uint - 4; ret | 0",
		run{"01 02 03", "", "3 0 0 1", "20 at 3", ""},
		run{"01 02 03 84", "", "4 2 1 1", "2214789633", ""})
	codeRuns(t, "uint - 8; ret | 0",
		run{"ff ff ff ff ff ff ff", "", "7 0 0 1", "20 at 7", ""},
		run{"ff ff ff ff ff ff ff ff", "", "8 2 1 1", "18446744073709551615", ""},
		run{"01 02 03 04 05 06 07 88", "", "8 2 1 1", "9801809732607083009", ""})
	// Kids out of their order.
	codeRuns(t, "struct; uint 2 1; uint 0 2; uint 1 1; ret | 0",
		run{"05 06 07", "", "3 3 3 1", "20 at 3", ""},
		run{"05 06 07 08", "", "4 5 4 1", "{1798, 8, 5}", ""})
}

// P23.3 to P23.5: what is missing behind a window's end is missing at once, whether bytes have come there or not.
func TestUintInWindow(t *testing.T) {
	windowRuns(t, "uint - 4; ret", 2,
		run{"", "", "8 4 1 2", "20 at 8", ""},
		run{"01", "", "9 4 1 2", "20 at 9", ""},
		run{"01 02", "20 at 10", "10 4 1 2", "", ""},
		run{"01 02 03 04 05", "20 at 10", "10 4 1 2", "", ""})
	windowRuns(t, "uint - 4; ret", 4,
		run{"01 02 03 04", "", "12 11 3 2", "{67305985, []}", ""})
	windowRuns(t, "uint - 1; ret", 0,
		run{"", "20 at 8", "8 4 1 2", "", ""},
		run{"05", "20 at 8", "8 4 1 2", "", ""})
	windowRuns(t, "uint - 1; ret", 2,
		run{"05", "124 at 9", "9 6 2 2", "", ""},
		run{"05 06", "124 at 9", "9 6 2 2", "", ""})
}

// P23.3 to P23.5: uints: each kid is there with its last byte; it is one step.
func TestUints(t *testing.T) {
	codeRuns(t, "struct; uints 0 3 2; ret | 0",
		run{"", "", "0 1 1 1", "20 at 0", ""},
		run{"01", "", "1 1 1 1", "20 at 1", ""},
		run{"01 00", "", "2 1 2 1", "20 at 2", ""},
		run{"01 00 02", "", "3 1 2 1", "20 at 3", ""},
		run{"01 00 02 00 03", "", "5 1 3 1", "20 at 5", ""},
		run{"01 00 02 00 03 04", "", "6 3 4 1", "{1, 2, 1027}", ""},
		run{"01 00 02 00 03 04 05", "124 at 6", "7 3 4 1", "", ""})
	codeRuns(t, "struct; bool 0; uints 1 2 1; bool 3; ret | 0",
		run{"01 07", "", "2 2 3 1", "20 at 2", ""},
		run{"01 07 08", "", "3 3 4 1", "20 at 3", ""},
		run{"01 07 08 00", "", "4 5 5 1", "{true, 7, 8, false}", ""},
		run{"01 07 08 02", "120 at 3", "4 3 4 1", "", ""})
	windowRuns(t, "struct; uints 0 3 2; ret", 3,
		run{"01 00", "", "10 5 3 2", "20 at 10", ""},
		run{"01 00 02", "20 at 11", "11 5 3 2", "", ""},
		run{"01 00 02 00 03 00", "20 at 11", "11 5 3 2", "", ""})
	codeRuns(t, "struct; uints 0 2 8; ret | 0",
		run{"01 02 03 04 05 06 07 08 ff ff ff ff ff ff ff", "", "15 1 2 1", "20 at 15", ""},
		run{"01 02 03 04 05 06 07 08 ff ff ff ff ff ff ff ff", "", "16 3 3 1", "{578437695752307201, 18446744073709551615}", ""})
	codeRuns(t, "struct; uints 0 64 1; ret | 0",
		run{strings.Repeat("01", 63), "", "63 1 64 1", "20 at 63", ""},
		run{strings.Repeat("01", 64), "", "64 3 65 1", "{" + strings.Repeat("1, ", 63) + "1}", ""})
}

// P23.3 to P23.5: bool.
func TestBool(t *testing.T) {
	codeRuns(t, "bool -; ret | 0",
		run{"", "", "0 0 0 1", "20 at 0", ""},
		run{"00", "", "1 2 1 1", "false", ""},
		run{"01", "", "1 2 1 1", "true", ""},
		run{"02", "120 at 0", "1 0 0 1", "", ""},
		run{"80", "120 at 0", "1 0 0 1", "", ""},
		run{"ff 00", "120 at 0", "1 0 0 1", "", ""},
		run{"01 00", "124 at 1", "2 2 1 1", "", ""})
	// A byte behind the window's end is missing, whatever it would be.
	windowRuns(t, "bool -; ret", 0, run{"02", "20 at 8", "8 4 1 2", "", ""})
	windowRuns(t, "bool -; ret", 1, run{"02", "120 at 8", "9 4 1 2", "", ""}, run{"01", "", "9 11 3 2", "{true, []}", ""})
}

// P23.3 to P23.5: varint: each byte is judged as it comes.
func TestVarint(t *testing.T) {
	const nine = "ff ff ff ff ff ff ff ff ff"
	const empty = "80 80 80 80 80 80 80 80 80"
	codeRuns(t, "varint -; ret | 0",
		run{"", "", "0 0 0 1", "20 at 0", ""},
		run{"00", "", "1 2 1 1", "0", ""},
		run{"7f", "", "1 2 1 1", "127", ""},
		run{"80", "", "1 0 0 1", "20 at 1", ""},
		run{"80 00", "21 at 1", "2 0 0 1", "", ""},
		run{"80 01", "", "2 2 1 1", "128", ""},
		run{"ac 02", "", "2 2 1 1", "300", ""},
		run{"ac 02 00", "124 at 2", "3 2 1 1", "", ""},
		run{"ff 80 00", "21 at 2", "3 0 0 1", "", ""},
		run{nine, "", "9 0 0 1", "20 at 9", ""},
		run{nine + "00", "21 at 9", "10 0 0 1", "", ""},
		run{nine + "01", "", "10 2 1 1", "18446744073709551615", ""},
		run{nine + "02", "21 at 9", "10 0 0 1", "", ""},
		run{nine + "81", "21 at 9", "10 0 0 1", "", ""},
		run{empty + "01", "", "10 2 1 1", "9223372036854775808", ""},
		run{empty + "80 01", "21 at 9", "10 0 0 1", "", ""},
		run{"ff ff ff ff ff ff ff ff 7f", "", "9 2 1 1", "9223372036854775807", ""})
	windowRuns(t, "varint -; ret", 1,
		run{"80", "20 at 9", "9 4 1 2", "", ""},
		run{"80 00", "20 at 9", "9 4 1 2", "", ""},
		run{"05", "", "9 11 3 2", "{5, []}", ""})
	windowRuns(t, "varint -; ret", 3,
		run{"80 00", "21 at 9", "10 4 1 2", "", ""},
		run{"80 80", "", "10 4 1 2", "20 at 10", ""})
	// Several, one behind the other.
	codeRuns(t, "seq; a: varint -; less 3 a; ret | 0",
		run{"ac 02 05 80", "", "4 5 3 1", "20 at 4", ""},
		run{"ac 02 05 80 01", "", "5 8 4 1", "[300, 5, 128]", ""})
}

// P23.3 to P23.5: seq and struct take nothing; the first instruction may be one whose bytes have not come.
func TestSeqAndStruct(t *testing.T) {
	codeRuns(t, "seq; ret | 0",
		run{"", "", "0 2 1 1", "[]", ""},
		run{"00", "124 at 0", "1 2 1 1", "", ""})
	codeRuns(t, "struct; bool 0; ret | 0",
		run{"", "", "0 1 1 1", "20 at 0", ""},
		run{"01", "", "1 3 2 1", "{true}", ""})
}

// P23.3 to P23.5: option: of 00 the target is next, of 01 the frame goes into it.
func TestOption(t *testing.T) {
	codeRuns(t, "option e; uint 0 1; e: ret | 0",
		run{"", "", "0 0 0 1", "20 at 0", ""},
		run{"00", "", "1 2 1 1", "none", ""},
		run{"00 00", "124 at 1", "2 2 1 1", "", ""},
		run{"01", "", "1 1 1 1", "20 at 1", ""},
		run{"01 07", "", "2 3 2 1", "some 7", ""},
		run{"02", "123 at 0", "1 0 0 1", "", ""},
		run{"ff 01", "123 at 0", "1 0 0 1", "", ""})
	codeRuns(t, "option e; uint - 1; ret; jump e; e: jump f; f: ret | 0",
		run{"00", "", "1 3 1 1", "none", ""},
		run{"01 07", "", "2 3 2 1", "some 7", ""})
	windowRuns(t, "option e; bool 0; e: ret", 0, run{"07", "20 at 8", "8 4 1 2", "", ""})
	windowRuns(t, "option e; bool 0; e: ret", 1,
		run{"01", "20 at 9", "9 5 2 2", "", ""},
		run{"00", "", "9 11 3 2", "{none, []}", ""})
	windowRuns(t, "option e; bool 0; e: ret", 2, run{"00", "124 at 9", "9 6 2 2", "", ""}, run{"03", "123 at 8", "9 4 1 2", "", ""})
}

// P23.3 to P23.5: union: the tag of an arm, and its target.
func TestUnion(t *testing.T) {
	codeRuns(t, "union 3; arm 3 x; arm 0 y; arm 255 z; y: uint 0 2; ret; x: bool 0; ret; z: varint -; ret | 0",
		run{"", "", "0 0 0 1", "20 at 0", ""},
		run{"03", "", "1 1 1 1", "20 at 1", ""},
		run{"03 01", "", "2 3 2 1", "<3:true>", ""},
		run{"03 02", "120 at 1", "2 1 1 1", "", ""},
		run{"00 07 01", "", "3 3 2 1", "<0:263>", ""},
		run{"ff ac 02", "", "3 3 2 1", "<255:300>", ""},
		run{"01", "123 at 0", "1 0 0 1", "", ""},
		run{"04 01", "123 at 0", "1 0 0 1", "", ""},
		run{"fe", "123 at 0", "1 0 0 1", "", ""},
		run{"03 01 00", "124 at 2", "3 3 2 1", "", ""})
	// What stands behind its arms is none.
	codeRuns(t, "bool -; ret; union 1; arm 7 x; arm 8 x; x: bool 0; ret | 0 2",
		run{"08", "123 at 0", "1 0 0 1", "", ""},
		run{"07 00", "", "2 3 2 1", "<7:false>", ""})
	windowRuns(t, "union 1; arm 7 2; bool 0; ret", 0, run{"08", "20 at 8", "8 4 1 2", "", ""})
	windowRuns(t, "union 1; arm 7 x; x: bool 0; ret", 1, run{"07", "20 at 9", "9 5 2 2", "", ""}, run{"08", "123 at 8", "9 4 1 2", "", ""})
}

// P23.5: an arm's target may be the one before its union, and behind it.
func TestUnionTargets(t *testing.T) {
	codeRuns(t, "x: bool 0; ret; u: union 2; arm 1 x; arm 2 y; ret; y: jump x | u",
		run{"01 01", "", "2 3 2 1", "<1:true>", ""},
		run{"02 00", "", "2 4 2 1", "<2:false>", ""})
}
