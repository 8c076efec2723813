package cost_test

import (
	"fmt"
	"slices"
	"strconv"
	"strings"

	"mortise/api"
)

// row: an instruction as chapter 14's tables have it: its number, and the words of its operands A, B, C, - for one that isn't named.
type row struct {
	op    int
	name  string
	words [3]string
}

// tables: of the decoder, and of the encoder, written out.
var tables = [2][]row{
	slices.Concat(
		tableRows(1, "uint kid width -, uints kid0 run width, bool kid - -, varint kid - -, seq - - -, struct - - -, option - target -, union arms - -, arm tag target -"),
		tableRows(10, "offset first - -, first most target -, slots - target -, item most target -, less most target -, parts - target -, call kid - type, part kid part type, tail part - -"),
		tableRows(19, "jump - target -, ret - - -")),
	slices.Concat(
		tableRows(9, "arm tag target -"), tableRows(19, "jump - target -, ret - - -"),
		tableRows(33, "number place1 width -, numbers place run width, flag place1 - -, leb - - -, many most - -, upto most - -, fields count - -, maybe - target -, choice arms - -, room bytes - -, slot place1 - -, enter place - type, each size - type, append - - type, again - target -")),
}

func tableRows(from int, text string) (out []row) {
	for k, line := range strings.Split(text, ", ") {
		w := strings.Fields(line)
		out = append(out, row{op: from + k, name: w[0], words: [3]string{w[1], w[2], w[3]}})
	}
	return out
}

// machineRows: what one of the machines has.
func machineRows(encodes bool) []row {
	if encodes {
		return tables[1]
	}
	return tables[0]
}

// names: of the instructions, by their numbers.
var names = func() (out [48]string) {
	for _, r := range slices.Concat(tables[0], tables[1]) {
		out[r.op] = r.name
	}
	return out
}()

// nameOf: of an instruction's number.
func nameOf(op int) string {
	if op < 0 || op >= len(names) || names[op] == "" {
		return "?"
	}
	return names[op]
}

// written: a program as its text says it: instructions parted by ;, its types' entries behind a |. A word with a : names an instruction; an operand or an entry may be such a name.
func written(encodes bool, text string) api.Program {
	p := api.Program{Encodes: encodes}
	code, entries, _ := strings.Cut(text, "|")
	var lines [][]string
	marks := map[string]int{}
	for _, line := range strings.Split(code, ";") {
		w := strings.Fields(line)
		for len(w) > 0 && strings.HasSuffix(w[0], ":") {
			mark := strings.TrimSuffix(w[0], ":")
			if _, is := marks[mark]; is {
				panic("a mark twice: " + text)
			}
			marks[mark] = len(lines)
			w = w[1:]
		}
		if len(w) > 0 {
			lines = append(lines, w)
		}
	}
	number := func(w string) int {
		if n, is := marks[w]; is {
			return n
		}
		n, err := strconv.Atoi(w)
		if err != nil {
			panic("the test's code: " + text)
		}
		return n
	}
	for _, w := range lines {
		p.Code = append(p.Code, instruction(encodes, w, number))
	}
	for _, w := range strings.Fields(entries) {
		p.Entry = append(p.Entry, number(w))
	}
	return p
}

// instruction: a name, and as many words as it has operands.
func instruction(encodes bool, w []string, number func(w string) int) api.Instr {
	at := slices.IndexFunc(machineRows(encodes), func(r row) bool { return r.name == w[0] })
	if at < 0 {
		panic("no instruction: " + w[0])
	}
	r := machineRows(encodes)[at]
	i := api.Instr{Op: r.op}
	rest := w[1:]
	for k, to := range []*int{&i.A, &i.B, &i.C} {
		if r.words[k] != "-" {
			*to = number(rest[0])
			rest = rest[1:]
		}
	}
	if len(rest) > 0 {
		panic("too many words: " + strings.Join(w, " "))
	}
	return i
}

// brief: a program, to be told.
func brief(p api.Program) string {
	var s strings.Builder
	for at, i := range p.Code {
		fmt.Fprintf(&s, "%d %s %d %d %d; ", at, nameOf(i.Op), i.A, i.B, i.C)
		if s.Len() > 900 {
			fmt.Fprintf(&s, ".. (%d in all)", len(p.Code))
			break
		}
	}
	return fmt.Sprintf("%s| %v of %d (encodes: %v)", s.String(), p.Entry[:min(len(p.Entry), 40)], len(p.Entry), p.Encodes)
}

// ok: no fault.
var ok = api.Fault{}

// bad: code that may not run, at an instruction.
func bad(at int) api.Fault { return api.Fault{Err: api.ErrCode, At: at} }
