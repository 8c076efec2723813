package code_test

import (
	"bytes"
	"encoding/binary"
	"fmt"
	"math"
	"slices"
	"strings"
	"testing"

	"mortise/api"
	"mortise/code"
)

// row: an instruction as the chapter's tables have it. The words are its operands A, B, C, - for one that isn't named.
type row struct {
	op      int
	name    string
	decodes bool
	encodes bool
	words   [3]string
}

// rows: both tables, written out. A kid, a place and a most that may be other numbers than their like have words of their own.
func rows() []row {
	return slices.Concat(
		tableRows(true, false, 1, "uint kid width -, uints kid0 run width, bool kid - -, varint kid - -, seq - - -, struct - - -, option - target -, union arms - -"),
		tableRows(true, true, 9, "arm tag target -"),
		tableRows(true, false, 10, "offset first - -, first most target -, slots - target -, item most target -, less most target -, parts - target -, call kid - type, part kid part type, tail part - -"),
		tableRows(true, true, 19, "jump - target -, ret - - -"),
		tableRows(false, true, 33, "number place1 width -, numbers place run width, flag place1 - -, leb - - -, many most - -, upto most - -, fields count - -, maybe - target -, choice arms - -, room bytes - -, slot place1 - -, enter place - type, each size - type, append - - type, again - target -"),
	)
}

func tableRows(decodes, encodes bool, from int, text string) (out []row) {
	for k, line := range strings.Split(text, ", ") {
		w := strings.Fields(line)
		out = append(out, row{op: from + k, name: w[0], decodes: decodes, encodes: encodes, words: [3]string{w[1], w[2], w[3]}})
	}
	return out
}

// theRows: of the decoder, and of the encoder.
var theRows = [2][]row{rowsWhere(func(r row) bool { return r.decodes }), rowsWhere(func(r row) bool { return r.encodes })}

func rowsWhere(has func(r row) bool) []row {
	return slices.DeleteFunc(rows(), func(r row) bool { return !has(r) })
}

// machineRows: what one of the machines has.
func machineRows(encodes bool) []row {
	if encodes {
		return theRows[1]
	}
	return theRows[0]
}

// rowOf: the row of an instruction's number, if its machine has it.
func rowOf(op int, encodes bool) (row, bool) {
	for _, r := range machineRows(encodes) {
		if r.op == op {
			return r, true
		}
	}
	return row{}, false
}

// spans: from where to where a word's numbers lie, of a program with so many instructions and types.
func spans(word string, code, types int) [][2]int {
	switch word {
	case "kid", "part":
		return [][2]int{{-1, 63}}
	case "kid0":
		return [][2]int{{0, 63}}
	case "width":
		return [][2]int{{1, 2}, {4, 4}, {8, 8}}
	case "run":
		return [][2]int{{2, 64}}
	case "first":
		return [][2]int{{4, 16777216}}
	case "most":
		return [][2]int{{1, 1048576}}
	case "count", "arms":
		return [][2]int{{1, 64}}
	case "tag":
		return [][2]int{{0, 255}}
	case "place":
		return [][2]int{{0, 16777215}}
	case "place1":
		return [][2]int{{-1, 16777215}}
	case "bytes":
		return [][2]int{{-1, -1}, {1, 16777216}}
	case "size":
		return [][2]int{{1, 16777216}}
	case "target":
		return [][2]int{{0, code - 1}}
	case "type":
		return [][2]int{{0, types - 1}}
	}
	return [][2]int{{0, 0}}
}

// within: is a number one of a word's?
func within(word string, n, code, types int) bool {
	return slices.ContainsFunc(spans(word, code, types), func(s [2]int) bool { return s[0] <= n && n <= s[1] })
}

// formOf: has the instruction at that number its form?
func formOf(p api.Program, at int) bool {
	i := p.Code[at]
	r, ok := rowOf(i.Op, p.Encodes)
	if !ok {
		return false
	}
	for k, n := range []int{i.A, i.B, i.C} {
		if !within(r.words[k], n, len(p.Code), len(p.Entry)) {
			return false
		}
	}
	switch r.name {
	case "uints":
		return i.A+i.B <= 64
	case "numbers":
		return i.A+i.B*i.C <= 16777216
	case "part":
		return i.A == -1 && i.B == -1 || i.A >= 0 && i.B >= 0
	case "union", "choice":
		tags := map[int]int{}
		for k := at + 1; k <= at+i.A; k++ {
			if k >= len(p.Code) || p.Code[k].Op != 9 {
				return false
			}
			tags[p.Code[k].A]++
		}
		return len(tags) == i.A
	}
	return true
}

// faultOf: what Check must answer.
func faultOf(p api.Program) api.Fault {
	if len(p.Code) > 1048576 || len(p.Entry) > 1048576 {
		return api.Fault{Err: api.ErrLong}
	}
	for at := range p.Code {
		if !formOf(p, at) {
			return api.Fault{Err: api.ErrOp, At: at}
		}
	}
	for at, e := range p.Entry {
		if e < 0 || e >= len(p.Code) {
			return api.Fault{Err: api.ErrPlace, At: at}
		}
	}
	return api.Fault{}
}

// named: the operands of an instruction that its row names, in their order.
func named(i api.Instr, encodes bool) (out []int) {
	r, _ := rowOf(i.Op, encodes)
	for k, n := range []int{i.A, i.B, i.C} {
		if r.words[k] != "-" {
			out = append(out, n)
		}
	}
	return out
}

// bytesOf: what Encode must answer of a program that has its form.
func bytesOf(p api.Program) []byte {
	b := []byte{0x6d, 0}
	if p.Encodes {
		b[1] = 1
	}
	b = binary.AppendUvarint(b, uint64(len(p.Entry)))
	for _, e := range p.Entry {
		b = binary.AppendUvarint(b, uint64(e))
	}
	b = binary.AppendUvarint(b, uint64(len(p.Code)))
	for _, i := range p.Code {
		b = binary.AppendUvarint(b, uint64(i.Op))
		for _, n := range named(i, p.Encodes) {
			b = binary.AppendUvarint(b, uint64(n+1))
		}
	}
	return b
}

// textOf: what Print must answer of a program that has its form.
func textOf(p api.Program) string {
	var s strings.Builder
	s.WriteString(map[bool]string{true: "encoder\n", false: "decoder\n"}[p.Encodes])
	for k, e := range p.Entry {
		fmt.Fprintf(&s, "type %d %d\n", k, e)
	}
	for k, i := range p.Code {
		r, _ := rowOf(i.Op, p.Encodes)
		fmt.Fprintf(&s, "%d %s", k, r.name)
		for _, n := range named(i, p.Encodes) {
			if n == -1 {
				s.WriteString(" -")
			} else {
				fmt.Fprintf(&s, " %d", n)
			}
		}
		s.WriteString("\n")
	}
	return s.String()
}

// taker: of bytes, as the chapter says the reading; it gives up by panic.
type taker struct {
	b  []byte
	at int
}

func giveUp(e api.Errno, at int) { panic(api.Fault{Err: e, At: at}) }

func (k *taker) byteOf(allowed ...byte) byte {
	if k.at >= len(k.b) {
		giveUp(api.ErrShort, k.at)
	}
	c := k.b[k.at]
	if !slices.Contains(allowed, c) {
		giveUp(api.ErrCode, k.at)
	}
	k.at++
	return c
}

// number: its value, and where it began.
func (k *taker) number() (n uint64, from int) {
	from = k.at
	for nth := 0; ; nth++ {
		if k.at >= len(k.b) {
			giveUp(api.ErrShort, k.at)
		}
		c := k.b[k.at]
		if nth == 9 && c > 1 || nth > 0 && c == 0 {
			giveUp(api.ErrForm, k.at)
		}
		n += uint64(c%128) << (7 * nth)
		k.at++
		if c < 128 {
			return n, from
		}
	}
}

func (k *taker) below(most uint64, e api.Errno) int {
	n, from := k.number()
	if n > most {
		giveUp(e, from)
	}
	return int(n)
}

// readOf: what Decode must answer.
func readOf(b []byte) (p api.Program, f api.Fault) {
	defer func() {
		if x := recover(); x != nil {
			p, f = api.Program{}, x.(api.Fault)
		}
	}()
	k := &taker{b: b}
	k.byteOf(0x6d)
	p.Encodes = k.byteOf(0, 1) == 1
	var entries, instrs []int
	for range k.below(1048576, api.ErrLong) {
		entries = append(entries, k.at)
		p.Entry = append(p.Entry, k.below(2147483648, api.ErrPlace))
	}
	for range k.below(1048576, api.ErrLong) {
		instrs = append(instrs, k.at)
		p.Code = append(p.Code, k.instr(p.Encodes))
	}
	if k.at < len(b) {
		giveUp(api.ErrTail, k.at)
	}
	switch f := faultOf(p); f.Err {
	case api.ErrOp:
		giveUp(api.ErrOp, instrs[f.At])
	case api.ErrPlace:
		giveUp(api.ErrPlace, entries[f.At])
	}
	return p, api.Fault{}
}

func (k *taker) instr(encodes bool) api.Instr {
	op, from := k.number()
	if op > 1000 {
		giveUp(api.ErrOp, from)
	}
	r, ok := rowOf(int(op), encodes)
	if !ok {
		giveUp(api.ErrOp, from)
	}
	i := api.Instr{Op: int(op)}
	for n, to := range []*int{&i.A, &i.B, &i.C} {
		if r.words[n] != "-" {
			*to = k.below(2147483648, api.ErrPlace) - 1
		}
	}
	return i
}

func brief(x any) string { return fmt.Sprintf("%.300s", fmt.Sprintf("%+v", x)) }

// same: all fields, nil and empty lists being one. (Not by Equal, which is asked itself.)
func same(a, b api.Program) bool {
	return a.Encodes == b.Encodes && slices.Equal(a.Code, b.Code) && slices.Equal(a.Entry, b.Entry)
}

// zero: has a program nothing at all, not even empty lists?
func zero(p api.Program) bool { return !p.Encodes && p.Code == nil && p.Entry == nil }

// faultIs holds the three calls that ask a program's form against a fault, and looks for zero values beside one.
func faultIs(t *testing.T, p api.Program, want api.Fault) {
	t.Helper()
	if f := code.Check(p); f != want {
		t.Errorf("P14.2: Check(%s) = %v, want %v", brief(p), f, want)
	}
	b, f := code.Encode(p)
	if f != want || want.Err != api.OK && b != nil {
		t.Errorf("P14.3: Encode(%s) = %s, %v, want %v", brief(p), brief(b), f, want)
	}
	s, f := code.Print(p)
	if f != want || want.Err != api.OK && s != "" {
		t.Errorf("P14.5: Print(%s) = %s, %v, want %v", brief(p), brief(s), f, want)
	}
}

// programAll holds all calls on a program against the model; whether it has its form.
func programAll(t *testing.T, p api.Program) bool {
	t.Helper()
	want := faultOf(p)
	faultIs(t, p, want)
	if want.Err != api.OK {
		return false
	}
	b, _ := code.Encode(p)
	if !bytes.Equal(b, bytesOf(p)) {
		t.Errorf("P14.3: Encode(%s) = % x, want % x", brief(p), b, bytesOf(p))
	}
	if s, _ := code.Print(p); s != textOf(p) {
		t.Errorf("P14.5: Print(%s) = %s, want %s", brief(p), brief(s), brief(textOf(p)))
	}
	decodeIs(t, bytesOf(p), p, api.Fault{})
	return true
}

// decodeIs holds Decode against a program or a fault.
func decodeIs(t *testing.T, b []byte, want api.Program, f api.Fault) {
	t.Helper()
	got, g := code.Decode(b)
	if g != f || !same(got, want) || f.Err != api.OK && !zero(got) {
		t.Errorf("P14.4: Decode(% x) = %s, %v, want %s, %v", b[:min(len(b), 60)], brief(got), g, brief(want), f)
	}
}

// decodeAll holds Decode against the model; whether it answers a program.
func decodeAll(t *testing.T, b []byte) bool {
	t.Helper()
	p, f := readOf(b)
	decodeIs(t, b, p, f)
	return f.Err == api.OK
}

// strangeNumbers: those at which something begins or ends, and those at which sums wrap.
func strangeNumbers() []int {
	return []int{math.MinInt, math.MinInt + 1, -1 << 32, -1 << 31, -2, -1, 0, 1, 2, 3, 4, 5, 8, 9, 16, 62, 63, 64, 65, 255, 256, 1<<20 - 1, 1 << 20, 1<<20 + 1, 1<<24 - 1, 1 << 24, 1<<24 + 1, 1<<31 - 1, 1 << 31, 1<<31 + 1, 1 << 32, 1<<61 + 1, 1 << 62, math.MaxInt - 1, math.MaxInt}
}

// dice: numbers that look like chance, always the same ones.
type dice uint64

func (d *dice) below(n int) int {
	*d = *d*6364136223846793005 + 1442695040888963407
	return int(uint64(*d)>>33) % n
}

// pick: one of a word's numbers, the edges more often than others.
func (d *dice) pick(word string, code, types int) int {
	l := spans(word, code, types)
	s := l[d.below(len(l))]
	switch d.below(4) {
	case 0:
		return s[0]
	case 1:
		return s[1]
	}
	return s[0] + d.below(s[1]-s[0]+1)
}

// chance: a program of n instructions and so many types that looks like chance, and has its form.
func chance(d *dice, encodes bool, n, types int) api.Program {
	p := api.Program{Encodes: encodes}
	for range types {
		p.Entry = append(p.Entry, d.below(n))
	}
	all := machineRows(encodes)
	for len(p.Code) < n {
		r := all[d.below(len(all))]
		if slices.Contains(r.words[:], "type") && types == 0 {
			continue
		}
		i := api.Instr{Op: r.op}
		for k, to := range []*int{&i.A, &i.B, &i.C} {
			*to = d.pick(r.words[k], n, types)
		}
		switch r.name {
		case "uints":
			i.A = d.below(64 - i.B + 1)
		case "numbers":
			i.A = min(i.A, 16777216-i.B*i.C)
		case "part":
			if i.A == -1 || i.B == -1 {
				i.A, i.B = -1, -1
			}
		case "union", "choice":
			if i.A = min(i.A, n-len(p.Code)-1); i.A == 0 {
				continue
			}
		}
		p.Code = append(p.Code, i)
		if r.words[0] == "arms" {
			p.Code = append(p.Code, armsOf(d, i.A, n)...)
		}
	}
	return p
}

// armsOf: so many, of other tags.
func armsOf(d *dice, many, n int) (out []api.Instr) {
	from, by := d.below(256), 1+2*d.below(128)
	for k := range many {
		out = append(out, api.Instr{Op: 9, A: (from + k*by) % 256, B: d.below(n)})
	}
	return out
}

// operand: a pointer to A, B or C.
func operand(i *api.Instr, k int) *int { return []*int{&i.A, &i.B, &i.C}[k] }

// turned: looks while a field is, one after the other, each of these, and puts back what it was.
func turned[T any](field *T, to []T, look func()) {
	was := *field
	for _, x := range to {
		*field = x
		look()
	}
	*field = was
}

// changes: looks while one field of the program at a time is each of the strange numbers.
func changes(p *api.Program, look func()) {
	turned(&p.Encodes, []bool{!p.Encodes}, look)
	for k := range p.Entry {
		turned(&p.Entry[k], append(strangeNumbers(), len(p.Code)-1, len(p.Code)), look)
	}
	for k := range p.Code {
		i := &p.Code[k]
		for _, field := range []*int{&i.Op, &i.A, &i.B, &i.C} {
			turned(field, append(strangeNumbers(), len(p.Code)-1, len(p.Code), len(p.Entry)-1, len(p.Entry), *field-1, *field+1), look)
		}
	}
}

// rearranged: the list without one of its items, with one twice, with two that have changed places, and with others laid in.
func rearranged[T any](l []T, more ...T) (out [][]T) {
	for k := range l {
		out = append(out, slices.Delete(slices.Clone(l), k, k+1), slices.Insert(slices.Clone(l), k, l[k]))
		for j := range k {
			m := slices.Clone(l)
			m[j], m[k] = m[k], m[j]
			out = append(out, m)
		}
		for _, x := range more {
			out = append(out, slices.Insert(slices.Clone(l), k, x))
		}
	}
	return out
}

// everything: a program of each machine that has every one of its instructions.
func everything(encodes bool) api.Program {
	if encodes {
		return api.Program{Encodes: true, Entry: []int{0, 20, 7}, Code: []api.Instr{
			{Op: 33, A: 3, B: 8}, {Op: 33, A: -1, B: 1}, {Op: 34, A: 300, B: 64, C: 4}, {Op: 35, A: 128}, {Op: 35, A: -1}, {Op: 36}, {Op: 37, A: 1 << 20}, {Op: 38, A: 9}, {Op: 39, A: 64},
			{Op: 40, B: 22}, {Op: 41, A: 2}, {Op: 9, A: 255, B: 1}, {Op: 9, B: 20}, {Op: 42, A: -1}, {Op: 42, A: 6}, {Op: 43, A: -1}, {Op: 43, A: 127}, {Op: 44, A: 1<<24 - 1, C: 2}, {Op: 45, A: 5, C: 1},
			{Op: 46, C: 2}, {Op: 47, B: 4}, {Op: 19, B: 22}, {Op: 20},
		}}
	}
	return api.Program{Entry: []int{21, 0, 3}, Code: []api.Instr{
		{Op: 1, A: -1, B: 8}, {Op: 1, A: 63, B: 4}, {Op: 2, A: 62, B: 2, C: 1}, {Op: 3, A: 7}, {Op: 4, A: -1}, {Op: 5}, {Op: 6}, {Op: 7, B: 20}, {Op: 8, A: 2}, {Op: 9, A: 9, B: 8}, {Op: 9, A: 1, B: 2},
		{Op: 10, A: 1 << 24}, {Op: 11, A: 127, B: 23}, {Op: 12, B: 1}, {Op: 13, A: 128, B: 3}, {Op: 14, A: 1 << 20, B: 22}, {Op: 15, B: 4}, {Op: 16, A: 2, C: 2}, {Op: 16, A: -1, C: 1}, {Op: 17, A: 3, B: 1, C: 2},
		{Op: 17, A: -1, B: -1}, {Op: 18, A: -1}, {Op: 18, A: 63}, {Op: 19, B: 5}, {Op: 20},
	}}
}
