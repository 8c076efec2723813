package decoder_test

import (
	"testing"

	"mortise/api"
	"mortise/decoder"
)

// P23.2 to P23.6: the chapter's worked examples, call by call.
func TestExamples(t *testing.T) {
	s, n := built(t, "struct{a:u8,b:list<u16,9>}")
	p := lowered(t, s)
	if m, e := decoder.New(api.Program{Encodes: true}, 0); m != nil || e != api.ErrCode {
		t.Errorf("P23.2: New(an encoder's code, 0) = %v, %d", m != nil, e)
	}
	if m, e := decoder.New(p, -1); m != nil || e != api.ErrPlace {
		t.Errorf("P23.2: New(p, -1) = %v, %d", m != nil, e)
	}
	m := newMachine(t, p, n)
	feedIs(t, m, nil, end{told: told{0, 1, 1, 1}}, "nothing")
	feedIs(t, m, unhex("07 05"), end{told: told{2, 2, 2, 1}}, "07 05")
	feedIs(t, m, unhex("00 00 00"), end{told: told{5, 5, 3, 2}}, "00 00 00")
	feedIs(t, m, unhex("01"), end{told: told{6, 6, 3, 2}}, "01")
	endIs(t, m.Copy(), end{fault: fault(api.ErrShort, 6), told: told{6, 6, 3, 2}}, "of a Copy")
	feedIs(t, m, unhex("02 03"), end{told: told{8, 9, 4, 2}}, "02 03")
	feedIs(t, m, unhex("04"), end{told: told{9, 12 - 1, 5, 2}}, "04")
	v := nodes(t, "{7, [513, 1027]}")
	endIs(t, m, end{value: v, told: told{9, 15, 5, 2}}, "the value")
	endIs(t, m, end{value: v, told: told{9, 15, 5, 2}}, "the same value")
	feedIs(t, m, nil, end{fault: fault(api.ErrEnded, 9), told: told{9, 15, 5, 2}}, "behind the value")
	m = newMachine(t, p, n)
	wrong := end{fault: fault(api.ErrOffset, 1), told: told{5, 2, 2, 1}}
	feedIs(t, m, unhex("07 06 00 00 00 01"), wrong, "06")
	feedIs(t, m, unhex("07"), wrong, "anything")
	feedIs(t, m, nil, wrong, "nothing")
	endIs(t, m, wrong, "the end")
}

// example: a type, bytes, what End answers behind them: a value, or an error with its place; whether Feed of them answers it.
type example struct {
	of, bytes, value string
	fault            api.Fault
	early            bool
}

// P23.3, P23.4, P23.7: the document's examples of reading.
func TestReadingExamples(t *testing.T) {
	const box = "struct{a:list<struct{x:u32,y:u32},9>,b:list<u8,9>}"
	const bytes = "struct{a:u8,b:list<u8,9>}"
	const lists = "list<list<u8,9>,9>"
	const person = "struct{id:u32,name:list<u8,20>,ok:bool}"
	const choice = "union{3:u16,200:option<varint>}"
	for _, x := range []example{
		{of: box, bytes: "08000000 0e000000 010203", fault: fault(20, 11)},
		{of: box, bytes: "08000000 0e000000 000000000000", fault: fault(20, 14), early: true},
		{of: box, bytes: "08000000 0e000000 0000000000000000", fault: fault(20, 14), early: true},
		{of: bytes, bytes: "01 05000000", value: "{1, []}"},
		{of: bytes, bytes: "01 06000000", fault: fault(122, 1), early: true},
		{of: lists, bytes: "08000000", fault: fault(20, 4)},
		{of: lists, bytes: "04000000", value: "[[]]"},
		{of: lists, bytes: "06", fault: fault(20, 1)},
		{of: lists, bytes: "28000000", fault: fault(121, 0), early: true},
		{of: "varint", bytes: "80", fault: fault(20, 1)},
		{of: "varint", bytes: "8000", fault: fault(21, 1), early: true},
		{of: "varint", bytes: "0102", fault: fault(124, 1), early: true},
		{of: "option<u8>", bytes: "0000", fault: fault(124, 1), early: true},
		{of: "option<u8>", bytes: "02", fault: fault(123, 0), early: true},
		{of: person, bytes: "07000000 09000000 01 6869", value: "{7, [104, 105], true}"},
		{of: person, bytes: "07000000 09000000 01 68ff", value: "{7, [104, 255], true}"},
		{of: person, bytes: "07000000 09000000 02 68", fault: fault(120, 8), early: true},
		{of: person, bytes: "07000000 08000000 01 68", fault: fault(122, 4), early: true},
		{of: person, bytes: "07000000 09", fault: fault(20, 5)},
		{of: "list<list<u16,9>,3>", bytes: "08000000 0a000000 0100 0200", value: "[[1], [2]]"},
		{of: "list<option<u8>,2>", bytes: "0c000000", fault: fault(121, 0), early: true},
		{of: "list<option<u8>,2>", bytes: "08000000 07000000", fault: fault(122, 4), early: true},
		{of: "list<option<u8>,2>", bytes: "08000000 09000000 01", fault: fault(20, 9), early: true},
		{of: choice, bytes: "c801ac02", value: "<200:some 300>"},
		{of: choice, bytes: "c801ac0200", fault: fault(124, 4), early: true},
		{of: choice, bytes: "04", fault: fault(123, 0), early: true},
	} {
		x.answers(t)
	}
}

func (x example) answers(t *testing.T) {
	t.Helper()
	s, n := built(t, x.of)
	p, b := lowered(t, s), unhex(x.bytes)
	text := ""
	v, f := decoder.Run(p, n, b)
	if f == ok {
		text = briefValue(v)
	}
	if f != x.fault || text != x.value {
		t.Errorf("P23.7: Run of %s: %s: %s, %v, want %s, %v", x.of, x.bytes, text, f, x.value, x.fault)
	}
	m := newMachine(t, p, n)
	want := ok
	if x.early {
		want = x.fault
	}
	if f := m.Feed(b); f != want {
		t.Errorf("P23.3: Feed to %s: %s: %v, want %v", x.of, x.bytes, f, want)
	}
	d := dice(len(b))
	all(t, &d, p, n, b)
}

// P23.3: DOC.md's streams: how many bytes have been looked at behind each chunk.
func TestStreamExample(t *testing.T) {
	s, n := built(t, "list<list<u16,9>,3>")
	m := newMachine(t, lowered(t, s), n)
	for _, c := range []struct {
		bytes string
		at    int
	}{{"0800", 2}, {"0000", 4}, {"0a00000001", 9}, {"00", 10}, {"0200", 12}} {
		if f := m.Feed(unhex(c.bytes)); f != ok || m.At() != c.at {
			t.Errorf("P23.3: Feed(%s) = %v, At %d, want %d", c.bytes, f, m.At(), c.at)
		}
	}
	for range 2 {
		if v, f := m.End(); f != ok || briefValue(v) != "[[1], [2]]" {
			t.Errorf("P23.4: End() = %s, %v", briefValue(v), f)
		}
	}
}
