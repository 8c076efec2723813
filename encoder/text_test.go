package encoder_test

import (
	"encoding/hex"
	"fmt"
	"slices"
	"strconv"
	"strings"
	"testing"

	"mortise/api"
	"mortise/raise"
	"mortise/sound"
	"mortise/syntax"
	"mortise/types"
	"mortise/value"
)

// row: an encoder's instruction as chapter 14's table has it: its number, and the words of its operands A, B, C, - for one that isn't named.
type row struct {
	op    int
	name  string
	words [3]string
}

// table: of the encoder, written out.
var table = slices.Concat(
	tableRows(9, "arm tag target -"), tableRows(19, "jump - target -, ret - - -"),
	tableRows(33, "number place1 width -, numbers place run width, flag place1 - -, leb - - -, many most - -, upto most - -, fields count - -, maybe - target -, choice arms - -, room bytes - -, slot place1 - -, enter place - type, each size - type, append - - type, again - target -"))

func tableRows(from int, text string) (out []row) {
	for k, line := range strings.Split(text, ", ") {
		w := strings.Fields(line)
		out = append(out, row{op: from + k, name: w[0], words: [3]string{w[1], w[2], w[3]}})
	}
	return out
}

// nameOf: of an instruction's number.
func nameOf(op int) string {
	at := slices.IndexFunc(table, func(r row) bool { return r.op == op })
	if at < 0 {
		return "?" + strconv.Itoa(op)
	}
	return table[at].name
}

// written: an encoder's program as its text says it: instructions parted by ;, its types' entries behind a |. A word with a : names an instruction; an operand or an entry may be such a name; - is -1.
func written(text string) api.Program {
	p := api.Program{Encodes: true}
	code, entries, _ := strings.Cut(text, "|")
	var lines [][]string
	marks := map[string]int{"-": -1}
	for _, line := range strings.Split(code, ";") {
		w := strings.Fields(line)
		for len(w) > 0 && strings.HasSuffix(w[0], ":") {
			marks[strings.TrimSuffix(w[0], ":")] = len(lines)
			w = w[1:]
		}
		if len(w) > 0 {
			lines = append(lines, w)
		}
	}
	number := func(w string) int {
		if n, is := marks[w]; is {
			return n
		}
		n, err := strconv.Atoi(w)
		if err != nil {
			panic("the test's code: " + text)
		}
		return n
	}
	for _, w := range lines {
		p.Code = append(p.Code, instruction(w, number))
	}
	for _, w := range strings.Fields(entries) {
		p.Entry = append(p.Entry, number(w))
	}
	return p
}

// instruction: a name, and as many words as it has operands.
func instruction(w []string, number func(w string) int) api.Instr {
	at := slices.IndexFunc(table, func(r row) bool { return r.name == w[0] })
	if at < 0 {
		panic("no instruction: " + w[0])
	}
	i := api.Instr{Op: table[at].op}
	rest := w[1:]
	for k, to := range []*int{&i.A, &i.B, &i.C} {
		if table[at].words[k] != "-" {
			*to = number(rest[0])
			rest = rest[1:]
		}
	}
	if len(rest) > 0 {
		panic("too many words: " + strings.Join(w, " "))
	}
	return i
}

// taken: a program as its text says it, which sound.Verify takes.
func taken(t *testing.T, text string) api.Program {
	t.Helper()
	p := written(text)
	if f := sound.Verify(p); f != ok {
		t.Fatalf("the test's code is refused: %s: %v", brief(p), f)
	}
	return p
}

// brief: a program, to be told.
func brief(p api.Program) string {
	var s strings.Builder
	for at, i := range p.Code {
		fmt.Fprintf(&s, "%d %s %d %d %d; ", at, nameOf(i.Op), i.A, i.B, i.C)
		if s.Len() > 900 {
			fmt.Fprintf(&s, ".. (%d in all)", len(p.Code))
			break
		}
	}
	return fmt.Sprintf("%s| %v of %d (encodes: %v)", s.String(), p.Entry[:min(len(p.Entry), 40)], len(p.Entry), p.Encodes)
}

// briefBytes: bytes, to be told.
func briefBytes(b []byte) string {
	if len(b) > 100 {
		return fmt.Sprintf("% x and %d more", b[:100], len(b)-100)
	}
	return fmt.Sprintf("% x", b)
}

// briefValue: nodes, to be told: a value's text, if it has one that is not too long.
func briefValue(v []api.Node) string {
	if text, e := value.Print(v); e == api.OK && len(text) < 300 {
		return text
	}
	return fmt.Sprintf("%d nodes: %v", len(v), v[:min(len(v), 20)])
}

// ok: no fault.
var ok = api.Fault{}

func fault(e api.Errno, at int) api.Fault { return api.Fault{Err: e, At: at} }

// unhex: blanks part bytes, and say nothing.
func unhex(s string) []byte {
	b, err := hex.DecodeString(strings.ReplaceAll(s, " ", ""))
	if err != nil {
		panic(err)
	}
	return b
}

// built: the schema of a type's text, and the type's number.
func built(t *testing.T, text string) (api.Schema, int) {
	t.Helper()
	source, f := syntax.Parse("type a=" + text + ";")
	if f.Err != api.OK {
		t.Fatalf("P6.2: Parse(%.200q) = %v", text, f)
	}
	s, f := types.Build(source)
	if f.Err != api.OK {
		t.Fatalf("P9.2: Build of %.200q: %v", text, f)
	}
	return s, s.Roots[len(s.Roots)-1].Type
}

// raised: the encoder's code of a schema.
func raised(t *testing.T, s api.Schema) api.Program {
	t.Helper()
	p, e := raise.Encoder(s)
	if e != api.OK {
		t.Fatalf("P17.2: Encoder(%+v) = %d", s, e)
	}
	return p
}

// nodes: of the text of a value.
func nodes(t *testing.T, text string) []api.Node {
	t.Helper()
	v, f := value.Parse(text)
	if f.Err != api.OK {
		t.Fatalf("P4.6: Parse(%.200q) = %v", text, f)
	}
	return v
}

// Nodes as chapter 4 writes them.
func u(n uint64) api.Node        { return api.Node{Kind: api.NodeUint, N: n} }
func b(n uint64) api.Node        { return api.Node{Kind: api.NodeBool, N: n} }
func s(kids int) api.Node        { return api.Node{Kind: api.NodeSeq, Kids: kids} }
func st(kids int) api.Node       { return api.Node{Kind: api.NodeStruct, Kids: kids} }
func o(kids int) api.Node        { return api.Node{Kind: api.NodeOption, Kids: kids} }
func c(tag uint64) api.Node      { return api.Node{Kind: api.NodeUnion, N: tag, Kids: 1} }
func v(l ...api.Node) []api.Node { return l }

// dice: numbers that look like chance, always the same ones.
type dice uint64

func (d *dice) below(n int) int {
	*d = *d*6364136223846793005 + 1442695040888963407
	return int(uint64(*d)>>33) % n
}

func (d *dice) oneOf(l ...int) int { return l[d.below(len(l))] }

func (d *dice) bits() uint64 {
	return uint64(d.below(1<<30))<<40 ^ uint64(d.below(1<<30))<<20 ^ uint64(d.below(1<<30))
}
