package lower_test

import (
	"fmt"
	"slices"
	"strconv"
	"strings"
	"testing"

	"mortise/api"
	"mortise/code"
	"mortise/lower"
	"mortise/sound"
)

// instrRow: an instruction of chapter 14's table: its number, and which of its operands the table names.
type instrRow struct {
	op       int
	operands string
}

// decoderRows: the decoder's table, written out (uints aside, which no routine has).
var decoderRows = map[string]instrRow{
	"uint": {1, "AB"}, "bool": {3, "A"}, "varint": {4, "A"}, "seq": {5, ""}, "struct": {6, ""}, "option": {7, "B"}, "union": {8, "A"}, "arm": {9, "AB"}, "offset": {10, "A"},
	"first": {11, "AB"}, "slots": {12, "B"}, "item": {13, "AB"}, "less": {14, "AB"}, "parts": {15, "B"}, "call": {16, "AC"}, "part": {17, "ABC"}, "tail": {18, "A"}, "jump": {19, "B"}, "ret": {20, ""},
}

// routine: the instructions that a text says, in the chapter's form (parted by ;, [x] ahead of one being a mark), if the first one has that number.
func routine(text string, from int) (out []api.Instr) {
	lines := strings.Split(text, "; ")
	marks := map[string]int{}
	for at, line := range lines {
		if mark, rest, is := strings.Cut(line, "] "); is {
			marks[mark[1:]] = from + at
			lines[at] = rest
		}
	}
	for _, line := range lines {
		w := strings.Fields(line)
		row, is := decoderRows[w[0]]
		if !is || len(w)-1 != len(row.operands) {
			panic("the test's code: " + line)
		}
		i := api.Instr{Op: row.op}
		for k, operand := range row.operands {
			n, is := marks[w[k+1]]
			if !is {
				var err error
				if n, err = strconv.Atoi(w[k+1]); err != nil {
					panic("no mark and no number: " + line)
				}
			}
			*map[rune]*int{'A': &i.A, 'B': &i.B, 'C': &i.C}[operand] = n
		}
		out = append(out, i)
	}
	return out
}

// program: routines, one behind the other.
func program(texts ...string) (out api.Program) {
	for _, text := range texts {
		out.Entry = append(out.Entry, len(out.Code))
		out.Code = append(out.Code, routine(text, len(out.Code))...)
	}
	return out
}

// brief: what is to be told, not too long to be read.
func brief(x any) string { return fmt.Sprintf("%.600s", fmt.Sprintf("%+v", x)) }

func same(p, q api.Program) bool {
	return p.Encodes == q.Encodes && slices.Equal(p.Code, q.Code) && slices.Equal(p.Entry, q.Entry)
}

// decoderIs tells where the answer is another program than said, or one that is not as all are to be.
func decoderIs(t *testing.T, s api.Schema, want api.Program) {
	t.Helper()
	got, e := lower.Decoder(s)
	if e != api.OK || !same(got, want) {
		t.Errorf("P16.2: Decoder(%s) = %s, %d, want %s", brief(s), brief(got), e, brief(want))
		return
	}
	follows(t, s, got)
}

// follows holds a schema's program against P16.3 and P16.4.
func follows(t *testing.T, s api.Schema, p api.Program) {
	t.Helper()
	if f := code.Check(p); f != (api.Fault{}) {
		t.Errorf("P16.3: Decoder(%s): code.Check says %v", brief(s), f)
	}
	if f := sound.Verify(p); f != (api.Fault{}) {
		t.Errorf("P16.3: Decoder(%s): sound.Verify says %v", brief(s), f)
	}
	small(t, s, p)
}

// small holds a schema's program against P16.4.
func small(t *testing.T, s api.Schema, p api.Program) {
	t.Helper()
	if len(p.Entry) != len(s.Types) {
		t.Errorf("P16.1: Decoder(%s): %d entries of %d types", brief(s), len(p.Entry), len(s.Types))
		return
	}
	ends := append(slices.Clone(p.Entry), len(p.Code))
	for i, x := range s.Types {
		most := 10
		if len(x.Parts) > 0 {
			most = 3*len(x.Parts) + 2
		}
		if n := ends[i+1] - ends[i]; n < 1 || n > most {
			t.Errorf("P16.4: Decoder(%s): the routine of type %d has %d instructions", brief(s), i, n)
		}
	}
}

// refusedIs tells where the answer is another error than said, or something stands beside it.
func refusedIs(t *testing.T, s api.Schema, want api.Errno) {
	t.Helper()
	p, e := lower.Decoder(s)
	if e != want {
		t.Errorf("P16.1: Decoder(%s): error %d, want %d", brief(s), e, want)
	}
	if p.Encodes || p.Code != nil || p.Entry != nil {
		t.Errorf("P16.1: Decoder(%s): error %d, and beside it %s", brief(s), e, brief(p))
	}
}
