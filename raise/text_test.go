package raise_test

import (
	"fmt"
	"slices"
	"strconv"
	"strings"
	"testing"

	"mortise/api"
	"mortise/code"
	"mortise/raise"
	"mortise/sound"
)

// instrRow: an instruction of chapter 14's table: its number, and which of its operands the table names.
type instrRow struct {
	op       int
	operands string
}

// encoderRows: the encoder's table, written out (numbers aside, which no routine has).
var encoderRows = map[string]instrRow{
	"number": {33, "AB"}, "flag": {35, "A"}, "leb": {36, ""}, "many": {37, "A"}, "upto": {38, "A"}, "fields": {39, "A"}, "maybe": {40, "B"}, "choice": {41, "A"}, "room": {42, "A"},
	"slot": {43, "A"}, "enter": {44, "AC"}, "each": {45, "AC"}, "append": {46, "C"}, "again": {47, "B"}, "arm": {9, "AB"}, "jump": {19, "B"}, "ret": {20, ""},
}

// routine: the instructions that a text says, parted by ; ([x] ahead of one is a mark, by which a target may be told), if the first one has that number.
func routine(text string, from int) (out []api.Instr) {
	lines := strings.Split(text, "; ")
	marks := map[string]int{}
	for at, line := range lines {
		if mark, rest, is := strings.Cut(line, "] "); is {
			marks[mark[1:]] = from + at
			lines[at] = rest
		}
	}
	for _, line := range lines {
		w := strings.Fields(line)
		row, is := encoderRows[w[0]]
		if !is || len(w)-1 != len(row.operands) {
			panic("the test's code: " + line)
		}
		i := api.Instr{Op: row.op}
		for k, operand := range row.operands {
			n, is := marks[w[k+1]]
			if !is {
				var err error
				if n, err = strconv.Atoi(w[k+1]); err != nil {
					panic("no mark and no number: " + line)
				}
			}
			*map[rune]*int{'A': &i.A, 'B': &i.B, 'C': &i.C}[operand] = n
		}
		out = append(out, i)
	}
	return out
}

// program: routines, one behind the other.
func program(texts ...string) (out api.Program) {
	out.Encodes = true
	for _, text := range texts {
		out.Entry = append(out.Entry, len(out.Code))
		out.Code = append(out.Code, routine(text, len(out.Code))...)
	}
	return out
}

// brief: what is to be told, not too long to be read.
func brief(x any) string { return fmt.Sprintf("%.600s", fmt.Sprintf("%+v", x)) }

func same(p, q api.Program) bool {
	return p.Encodes == q.Encodes && slices.Equal(p.Code, q.Code) && slices.Equal(p.Entry, q.Entry)
}

// encoderIs tells where the answer is another program than said, or one that is not as all are to be.
func encoderIs(t *testing.T, s api.Schema, want api.Program) {
	t.Helper()
	got, e := raise.Encoder(s)
	if e != api.OK || !same(got, want) {
		t.Errorf("P17.2: Encoder(%s) = %s, %d, want %s", brief(s), brief(got), e, brief(want))
		return
	}
	follows(t, s, got)
}

// follows holds a schema's program against P17.3 and P17.4.
func follows(t *testing.T, s api.Schema, p api.Program) {
	t.Helper()
	if f := code.Check(p); f != (api.Fault{}) {
		t.Errorf("P17.3: Encoder(%s): code.Check says %v", brief(s), f)
	}
	if f := sound.Verify(p); f != (api.Fault{}) {
		t.Errorf("P17.3: Encoder(%s): sound.Verify says %v", brief(s), f)
	}
	entriesRise(t, s, p)
}

// entriesRise holds a schema's program against P17.4: as many entries as types, rising.
func entriesRise(t *testing.T, s api.Schema, p api.Program) {
	t.Helper()
	if len(p.Entry) != len(s.Types) {
		t.Errorf("P17.4: Encoder(%s): %d entries of %d types", brief(s), len(p.Entry), len(s.Types))
	}
	ahead := -1
	for i, at := range p.Entry {
		if at <= ahead || i == 0 && at != 0 {
			t.Errorf("P17.4: Encoder(%s): the entries don't rise from 0 on: %v", brief(s), brief(p.Entry))
			return
		}
		ahead = at
	}
}

// refusedIs tells where the answer is another error than said, or something stands beside it.
func refusedIs(t *testing.T, s api.Schema, want api.Errno) {
	t.Helper()
	p, e := raise.Encoder(s)
	if e != want {
		t.Errorf("P17.2: Encoder(%s): error %d, want %d", brief(s), e, want)
	}
	if p.Encodes || p.Code != nil || p.Entry != nil {
		t.Errorf("P17.2: Encoder(%s): error %d, and beside it %s", brief(s), e, brief(p))
	}
}
