package code_test

import (
	"bytes"
	"math"
	"testing"

	"mortise/api"
	"mortise/code"
	"mortise/varint"
)

// thereAndBack: Decode of what Encode answers is the program; whether there are bytes.
func thereAndBack(t *testing.T, p api.Program) bool {
	t.Helper()
	b, f := code.Encode(p)
	if f.Err != api.OK {
		return false
	}
	got, f := code.Decode(b)
	if f != (api.Fault{}) || !same(got, p) || !code.Equal(got, p) {
		t.Errorf("P14.7: Encode(%s) is % x, but Decode of it %s, %v", brief(p), b, brief(got), f)
	}
	return true
}

// backAndThere: Encode of what Decode answers is the bytes; whether there is a program.
func backAndThere(t *testing.T, b []byte) bool {
	t.Helper()
	p, f := code.Decode(b)
	if f.Err != api.OK {
		return false
	}
	got, f := code.Encode(p)
	if f != (api.Fault{}) || !bytes.Equal(got, b) {
		t.Errorf("P14.7: Decode(% x) is %s, but Encode of it % x, %v", b, brief(p), got, f)
	}
	return true
}

// P14.7: of programs with one field changed, and of programs that look like chance.
func TestThereAndBack(t *testing.T) {
	asked := 0
	for _, p := range []api.Program{small(), everything(false), everything(true)} {
		changes(&p, func() {
			if thereAndBack(t, p) {
				asked++
			}
		})
	}
	if asked < 500 {
		t.Errorf("only %d were asked", asked)
	}
	d := dice(7)
	for n := range 2000 {
		if p := chance(&d, n%2 == 0, 1+d.below(60), d.below(9)); !thereAndBack(t, p) {
			t.Errorf("%s has not its form", brief(p))
		}
	}
}

// P14.7: of bytes with one or two of them others: each program has one form.
func TestBackAndThere(t *testing.T) {
	asked := 0
	d := dice(8)
	for n := range 200 {
		b := bytesOf(chance(&d, n%2 == 0, 1+d.below(9), d.below(4)))
		for range 300 {
			x := bytes.Clone(b)
			for range 1 + d.below(2) {
				x[d.below(len(x))] = byte(d.below(1 + d.below(256)))
			}
			if backAndThere(t, x) {
				asked++
			}
		}
	}
	if asked < 4000 {
		t.Errorf("only %d were asked", asked)
	}
}

// P14.7: a number with a needless byte is in no place taken.
func TestOneForm(t *testing.T) {
	for _, p := range []api.Program{small(), everything(false), everything(true)} {
		b := bytesOf(p)
		for at := 2; at < len(b); at++ {
			if b[at] >= 0x80 {
				continue
			}
			x := append(append(bytes.Clone(b[:at]), b[at]|0x80, 0), b[at+1:]...)
			decodeIs(t, x, api.Program{}, api.Fault{Err: api.ErrForm, At: at + 1})
		}
	}
}

// cutIs: of bytes that are a program's, cut anywhere, and with a byte behind.
func cutIs(t *testing.T, b []byte) {
	t.Helper()
	for at := range b {
		// The bytes behind the cut are there, as spare room, and cut off whole.
		decodeIs(t, b[:at], api.Program{}, api.Fault{Err: api.ErrShort, At: at})
		decodeIs(t, b[:at:at], api.Program{}, api.Fault{Err: api.ErrShort, At: at})
	}
	for _, c := range []byte{0, 1, 20, 0x6d, 0x80, 0xff} {
		decodeIs(t, append(bytes.Clone(b), c), api.Program{}, api.Fault{Err: api.ErrTail, At: len(b)})
		decodeIs(t, append(bytes.Clone(b), c, c, 0), api.Program{}, api.Fault{Err: api.ErrTail, At: len(b)})
	}
	decodeIs(t, append(bytes.Clone(b), b...), api.Program{}, api.Fault{Err: api.ErrTail, At: len(b)})
}

// P14.8: cut, and with a byte behind.
func TestCut(t *testing.T) {
	cutIs(t, bytesOf(small()))
	cutIs(t, bytesOf(api.Program{}))
	cutIs(t, bytesOf(api.Program{Encodes: true}))
	cutIs(t, bytesOf(everything(false)))
	cutIs(t, bytesOf(everything(true)))
	d := dice(9)
	for n := range 200 {
		cutIs(t, bytesOf(chance(&d, n%2 == 0, 1+d.below(60), d.below(200))))
	}
}

// texts: which program had a text.
type texts map[string]api.Program

// told: the text of a program that has its form, and whether another program had it.
func (l texts) told(t *testing.T, p api.Program) {
	t.Helper()
	s, f := code.Print(p)
	if f.Err != api.OK {
		return
	}
	if was, ok := l[s]; ok && !code.Equal(was, p) {
		t.Errorf("P14.9: %s and %s have one text: %q", brief(was), brief(p), s)
	}
	l[s] = cloned(p)
}

// P14.9: of all programs of one and two instructions with small numbers, and of those with one field changed.
func TestTexts(t *testing.T) {
	have := texts{}
	numbers := []int{-1, 0, 1, 2, 3, 4, 8, 11, 12, 21, 63, 64, 111, 112, 121}
	for _, encodes := range []bool{false, true} {
		for op := range 48 {
			for _, a := range numbers {
				for _, b := range numbers {
					for _, c := range numbers {
						i := api.Instr{Op: op, A: a, B: b, C: c}
						have.told(t, api.Program{Encodes: encodes, Code: []api.Instr{i}, Entry: []int{0, 0, 0, 0}})
						have.told(t, api.Program{Encodes: encodes, Code: []api.Instr{i, {Op: 20}}, Entry: []int{1, 0, 0, 0}})
						have.told(t, api.Program{Encodes: encodes, Code: []api.Instr{{Op: 20}, i}, Entry: []int{0}})
						have.told(t, api.Program{Encodes: encodes, Code: []api.Instr{{Op: 20}, i}, Entry: []int{1}})
						have.told(t, api.Program{Encodes: encodes, Code: []api.Instr{i, i}})
					}
				}
			}
		}
		p := everything(encodes)
		changes(&p, func() { have.told(t, p) })
	}
	have.told(t, api.Program{})
	have.told(t, api.Program{Encodes: true})
	if len(have) < 2000 {
		t.Errorf("only %d programs were told", len(have))
	}
}

// P14.9: of programs that look like chance, and with instructions and types laid in, left out and changed about.
func TestTextsChance(t *testing.T) {
	d := dice(10)
	have := texts{}
	for n := range 400 {
		p := chance(&d, n%2 == 0, 1+d.below(8), d.below(4))
		have.told(t, p)
		for _, l := range rearranged(p.Code, api.Instr{Op: 20}, api.Instr{Op: 19}) {
			turned(&p.Code, [][]api.Instr{l}, func() { have.told(t, p) })
		}
		for _, l := range rearranged(p.Entry, 0) {
			turned(&p.Entry, [][]int{l}, func() { have.told(t, p) })
		}
	}
	if len(have) < 4000 {
		t.Errorf("only %d programs were told", len(have))
	}
}

// P14.3: all numbers behind the second byte are the varints of chapter 2.
func TestNumbersAreVarints(t *testing.T) {
	p := api.Program{Code: make([]api.Instr, 1<<15), Entry: []int{0}}
	for k := range p.Code {
		p.Code[k].Op = 20
	}
	for _, n := range []int{0, 1, 126, 127, 128, 255, 256, 1<<14 - 2, 1<<14 - 1, 1 << 14, 1<<15 - 1} {
		p.Entry[0] = n
		b, f := code.Encode(p)
		want := append(append([]byte{0x6d, 0, 1}, varint.Put(uint64(n))...), varint.Put(1<<15)...)
		if f.Err != api.OK || !bytes.HasPrefix(b, want) || len(b) != len(want)+1<<15 {
			t.Errorf("P14.3: the bytes of an entry %d begin with % x, want % x", n, b[:min(len(b), 12)], want)
		}
	}
	for _, n := range []uint64{0, 127, 128, 1<<31 - 1, 1 << 31, 1<<31 + 1, math.MaxUint64} {
		b := append([]byte{0x6d, 0, 1}, varint.Put(n)...)
		_, f := code.Decode(b)
		want := api.Fault{Err: api.ErrShort, At: len(b)}
		if n > 1<<31 {
			want = api.Fault{Err: api.ErrPlace, At: 3}
		}
		if f != want {
			t.Errorf("P14.4: Decode(% x) = %v, want %v", b, f, want)
		}
	}
}
