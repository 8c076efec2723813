package code_test

import (
	"bytes"
	"math"
	"slices"
	"testing"
	"unsafe"

	"mortise/api"
	"mortise/code"
)

// P14.1: the calls end, and don't panic, at programs of which one field, the order or the number of things is another.
func TestAllPrograms(t *testing.T) {
	d := dice(11)
	for _, p := range []api.Program{small(), everything(false), everything(true), chance(&d, false, 9, 2), chance(&d, true, 9, 2)} {
		look := func() { programAll(t, p) }
		changes(&p, look)
		for _, l := range rearranged(p.Code, api.Instr{}, api.Instr{Op: 8, A: 1}, api.Instr{Op: 41, A: 64}, api.Instr{Op: 9}, api.Instr{Op: 19, B: len(p.Code)}) {
			turned(&p.Code, [][]api.Instr{l}, look)
		}
		for _, l := range rearranged(p.Entry, -1, 0, math.MaxInt) {
			turned(&p.Entry, [][]int{l}, look)
		}
	}
}

// P14.1: all programs of one instruction whose numbers lie at the edges.
func TestAllInstructions(t *testing.T) {
	numbers := []int{math.MinInt, -2, -1, 0, 1, 2, 8, 63, 64, 1 << 20, 1 << 24, 1<<24 + 1, math.MaxInt}
	ops := append([]int{math.MinInt, -1, 256, 1 << 32, 1<<32 + 1, math.MaxInt}, make([]int, 70)...)
	for k := range 70 {
		ops[6+k] = k
	}
	for _, op := range ops {
		for _, a := range numbers {
			for _, b := range numbers {
				for _, c := range numbers {
					for _, encodes := range []bool{false, true} {
						programAll(t, api.Program{Encodes: encodes, Code: []api.Instr{{Op: op, A: a, B: b, C: c}}, Entry: []int{0}})
					}
				}
			}
		}
	}
}

// P14.1: Decode ends, and doesn't panic, at bytes that look like chance, the first ones too.
func TestAllBytes(t *testing.T) {
	d := dice(12)
	for n := range 20000 {
		var b []byte
		for range n % 40 {
			b = append(b, byte(d.below(256)))
		}
		decodeAll(t, b)
	}
	for _, n := range []int{1, 1000, 1 << 20} {
		for _, c := range []byte{0, 1, 0x6d, 0x80, 0xff} {
			decodeAll(t, bytes.Repeat([]byte{c}, n))
			decodeAll(t, append([]byte{0x6d, 0}, bytes.Repeat([]byte{c}, n)...))
		}
	}
}

// roomy: a copy with spare room in its lists, and something in it that would be a fault, or an arm more.
func roomy(p api.Program) api.Program {
	p.Code = append(slices.Clip(slices.Clone(p.Code)), api.Instr{Op: 9, A: 77}, api.Instr{Op: -1})[:len(p.Code)]
	p.Entry = append(slices.Clip(slices.Clone(p.Entry)), -1, math.MaxInt)[:len(p.Entry)]
	return p
}

// held: all that a program's lists hold, spare room too.
func held(p api.Program) api.Program {
	return api.Program{Encodes: p.Encodes, Code: slices.Clone(p.Code[:cap(p.Code)]), Entry: slices.Clone(p.Entry[:cap(p.Entry)])}
}

// somePrograms: with and without their form.
func somePrograms(d *dice) []api.Program {
	out := []api.Program{{}, small(), everything(false), everything(true), {Entry: []int{0}}, {Code: []api.Instr{{Op: 8, A: 1}}}, {Code: []api.Instr{{Op: 8, A: 2}, {Op: 9}}}, {Code: []api.Instr{{Op: 19, B: 1}}}}
	for n := range 300 {
		p := chance(d, n%2 == 0, 1+d.below(40), d.below(5))
		if n%3 == 0 {
			p.Code[d.below(len(p.Code))].A += 1 << d.below(63)
		}
		out = append(out, p)
	}
	return out
}

// P14.1: a program that is handed in is not changed, spare room too, and spare room is not looked at.
func TestProgramsChangeNothing(t *testing.T) {
	d := dice(13)
	for _, p := range somePrograms(&d) {
		x, y := roomy(p), roomy(p)
		before := held(x)
		faultIs(t, x, faultOf(p))
		programAll(t, x)
		equalIs(t, x, y, true)
		if !same(before, held(x)) || !same(before, held(y)) {
			t.Errorf("P14.1: %s: what is handed in is changed", brief(p))
		}
	}
}

// P14.1: bytes that are handed in are not changed, spare room too, and spare room is not looked at.
func TestBytesChangeNothing(t *testing.T) {
	d := dice(14)
	for _, p := range somePrograms(&d) {
		if faultOf(p).Err != api.OK {
			continue
		}
		b := append(bytesOf(p), 20, 20, 0, 1)
		before := bytes.Clone(b)
		n := len(b) - 4
		decodeIs(t, b[:n], p, api.Fault{})
		decodeAll(t, b[:d.below(n)])
		decodeAll(t, b[:n+1])
		if !bytes.Equal(b, before) {
			t.Errorf("P14.1: Decode(% x): what is handed in is changed", before)
		}
	}
}

// overwrite writes over a list, spare room too.
func overwrite[T any](l []T, x T) {
	l = l[:cap(l)]
	for k := range l {
		l[k] = x
	}
}

// all: do all items of a list, spare room too, say this?
func all[T comparable](l []T, x T) bool {
	return !slices.ContainsFunc(l[:cap(l)], func(y T) bool { return y != x })
}

// P14.1: what Encode and Decode answer is new memory, spare room too: no two lists share any, and none with what was handed in.
func TestNewMemory(t *testing.T) {
	d := dice(15)
	for _, p := range somePrograms(&d) {
		if faultOf(p).Err != api.OK {
			continue
		}
		x := roomy(p)
		before, in := held(x), bytesOf(p)
		in = append(in, 7, 7)[:len(in)]
		wasIn := bytes.Clone(in[:cap(in)])
		firstBytes, _ := code.Encode(x)
		secondBytes, _ := code.Encode(x)
		first, _ := code.Decode(in)
		second, _ := code.Decode(in)
		text, _ := code.Print(x)
		overwrite(firstBytes, 0xee)
		overwrite(first.Code, api.Instr{Op: -7, A: -8, B: -9, C: -10})
		overwrite(first.Entry, -6)
		if !all(firstBytes, 0xee) || !all(first.Code, api.Instr{Op: -7, A: -8, B: -9, C: -10}) || !all(first.Entry, -6) {
			t.Errorf("P14.1: %s: two lists of an answer share memory", brief(p))
		}
		if !bytes.Equal(secondBytes, bytesOf(p)) || !same(second, p) || text != textOf(p) {
			t.Errorf("P14.1: %s: two answers share memory", brief(p))
		}
		if !same(before, held(x)) || !bytes.Equal(wasIn, in[:cap(in)]) {
			t.Errorf("P14.1: %s: an answer shares memory with what was handed in", brief(p))
		}
		overwrite(second.Code, api.Instr{Op: -5})
		overwrite(second.Entry, -4)
		overwrite(secondBytes, 0xdd)
		if !all(first.Code, api.Instr{Op: -7, A: -8, B: -9, C: -10}) || !all(first.Entry, -6) || !all(firstBytes, 0xee) {
			t.Errorf("P14.1: %s: two answers share spare room", brief(p))
		}
		programAll(t, x)
	}
}

// P14.1: what is answered stays as it is when what was handed in is changed, and each call looks at what it is handed now.
func TestLooksAgain(t *testing.T) {
	p := small()
	b, _ := code.Encode(p)
	text, _ := code.Print(p)
	in := bytes.Clone(b)
	back, _ := code.Decode(in)
	p.Code[0].B = 4
	programAll(t, p)
	equalIs(t, p, small(), false)
	p.Code[0].B = 3
	faultIs(t, p, op(0))
	p.Code[0], p.Entry[0] = api.Instr{Op: 3}, 1
	programAll(t, p)
	p.Entry = append(p.Entry, 2)
	faultIs(t, p, api.Fault{Err: api.ErrPlace, At: 1})
	in[7] = 5
	decodeIs(t, in, api.Program{Code: []api.Instr{{Op: 1, A: -1, B: 4}, {Op: 20}}, Entry: []int{0}}, api.Fault{})
	in[7] = 4
	decodeIs(t, in, api.Program{}, op(5))
	clear(in)
	decodeIs(t, in, api.Program{}, api.Fault{Err: api.ErrCode})
	if !bytes.Equal(b, unhex("6d 00 01 00 02 01 00 03 14")) || !same(back, small()) || text != "decoder\ntype 0 0\n0 uint - 2\n1 ret\n" {
		t.Errorf("P14.1: answers are changed by later calls: % x, %s, %q", b, brief(back), text)
	}
}

// P14.1: the text that Print answers is of no memory that another call writes to.
func TestTextIsNew(t *testing.T) {
	first, _ := code.Print(everything(true))
	second, _ := code.Print(everything(true))
	if unsafe.StringData(first) == unsafe.StringData(second) {
		t.Error("P14.1: two texts share memory")
	}
}

// P14.1: with an error the other answer is its zero value, whatever was answered ahead.
func TestZeroBesideError(t *testing.T) {
	for _, p := range []api.Program{small(), everything(false), everything(true)} {
		b := bytesOf(p)
		for at := range p.Code {
			programAll(t, p)
			turned(&p.Code[at].Op, []int{0, 21, -1}, func() { programAll(t, p) })
		}
		for at := range p.Entry {
			turned(&p.Entry[at], []int{-1, len(p.Code)}, func() { faultIs(t, p, api.Fault{Err: api.ErrPlace, At: at}) })
		}
		for at := range b {
			decodeIs(t, b, p, api.Fault{})
			decodeIs(t, b[:at], api.Program{}, api.Fault{Err: api.ErrShort, At: at})
		}
	}
}
