package decoder_test

import (
	"math"
	"testing"

	"mortise/api"
	"mortise/decoder"
	"mortise/raise"
	"mortise/sound"
)

// strangeNumbers: those at which something begins or ends, and those at which sums wrap.
func strangeNumbers() []int {
	return []int{math.MinInt, math.MinInt + 1, -1 << 32, -1 << 31, -2, -1, 0, 1, 2, 3, 8, 62, 63, 64, 65, 1 << 20, 1<<20 + 1, 1<<24 - 1, 1 << 24, 1<<31 - 1, 1 << 31, 1 << 32, 1 << 62, math.MaxInt - 1, math.MaxInt}
}

// refused: programs that sound.Verify does not take, for every kind of reason.
func refused() []api.Program {
	return []api.Program{
		written("ret | 0"), written("uint - 2 | 0"), written("uint - 3; ret | 0"), written("uint - 2; ret | 2"), written("uint - 2; ret | - "), written("uint - 2; uint - 2; ret | 0"),
		written("uint 0 2; ret | 0"), written("seq; jump 1 | 0"), written("seq; item 3 3; jump 1; ret | 0"), written("call - 0; ret | 0"), written("option 3; uint 0 1; jump 1; ret | 0"),
		written("struct; call 0 0; ret; seq; ret | 3 0"), {Code: []api.Instr{{Op: 33, B: 1}, {Op: 20}}, Entry: []int{0}}, {Code: []api.Instr{{}}}, {Entry: []int{0}},
	}
}

// encoders: programs that encode, sound ones too, and one that sound.Verify does not take.
func encoders(t *testing.T) []api.Program {
	t.Helper()
	s, _ := built(t, "struct{a:u8,b:list<u16,9>}")
	p, e := raise.Encoder(s)
	if e != api.OK || sound.Verify(p) != ok {
		t.Fatalf("P17.1: Encoder = %d", e)
	}
	return []api.Program{p, {Encodes: true}, {Encodes: true, Code: []api.Instr{{Op: 20}}, Entry: []int{0}}, {Encodes: true, Entry: []int{0}}}
}

// P23.2, P23.6, P23.7: programs that may not run, and those that encode: ErrCode, ahead of all else.
func TestNoCode(t *testing.T) {
	saved := newMachine(t, written("bool -; ret | 0"), 0).Save()
	for _, p := range append(refused(), encoders(t)...) {
		if !p.Encodes && sound.Verify(p) == ok {
			t.Fatalf("the test's code is taken: %s", brief(p))
		}
		for _, n := range strangeNumbers() {
			if m, e := decoder.New(p, n); m != nil || e != api.ErrCode {
				t.Errorf("P23.2: New(%s, %d) = %v, %d, want ErrCode", brief(p), n, m != nil, e)
			}
			if v, f := decoder.Run(p, n, []byte{1}); len(v) > 0 || f != fault(api.ErrCode, 0) {
				t.Errorf("P23.7: Run(%s, %d) = %v, %v, want ErrCode", brief(p), n, v, f)
			}
		}
		for _, b := range [][]byte{nil, {}, {0}, saved, saved[:len(saved)-1]} {
			if m, f := decoder.Load(p, b); m != nil || f != fault(api.ErrCode, 0) {
				t.Errorf("P23.6: Load(%s, % x) = %v, %v, want ErrCode", brief(p), b, m != nil, f)
			}
		}
	}
}

// P23.2, P23.7: numbers that are no type's.
func TestTypes(t *testing.T) {
	for _, text := range []string{"|", "bool -; ret | 0", "bool -; ret; seq; ret | 0 2 0"} {
		p := taken(t, text)
		for _, n := range append(strangeNumbers(), len(p.Entry)-1, len(p.Entry), len(p.Entry)+1) {
			m, e := decoder.New(p, n)
			_, f := decoder.Run(p, n, []byte{1, 1})
			if n >= 0 && n < len(p.Entry) {
				if m == nil || e != api.OK || f.Err != api.ErrTail {
					t.Errorf("P23.2: New(%s, %d) = %v, %d; Run: %v", text, n, m != nil, e, f)
				}
				continue
			}
			if m != nil || e != api.ErrPlace || f != fault(api.ErrPlace, 0) {
				t.Errorf("P23.2, P23.7: New(%s, %d) = %v, %d, Run %v, want ErrPlace", text, n, m != nil, e, f)
			}
		}
	}
}

// newIs: New's answer is the one that P23.2 says; whether there is a machine.
func newIs(t *testing.T, p api.Program, n int) bool {
	t.Helper()
	want := api.OK
	switch {
	case sound.Verify(p) != ok, p.Encodes:
		want = api.ErrCode
	case n < 0, n >= len(p.Entry):
		want = api.ErrPlace
	}
	m, e := decoder.New(p, n)
	if e != want || (m != nil) != (want == api.OK) {
		t.Fatalf("P23.2: New(%s, %d) = %v, %d, want %d", brief(p), n, m != nil, e, want)
	}
	return m != nil
}

// with: looks while a field is, one after the other, each of these, and puts back what it was.
func with[T any](field *T, to []T, look func()) {
	was := *field
	for _, x := range to {
		*field = x
		look()
	}
	*field = was
}

// whole: a program that is taken and has every one of the decoder's instructions.
func whole() api.Program {
	return written("bool -; ret; l: seq; first 9 r; jump s; a: offset 4; s: slots a; jump p; b: part - - 0; tail -; p: parts b; r: ret; m: seq; i: item 9 q; call - 0; jump i; q: ret; v: seq; c: varint -; less 3 c; ret; o: option e; call 0 1; e: ret; u: union 2; arm 0 x; arm 9 y; x: bool 0; jump z; y: uint 0 8; z: ret; t: struct; uint 0 1; uints 1 2 4; offset 17; offset 17; call 5 0; part 3 0 1; tail 0; part 4 1 2; tail 1; ret; jump w; w: jump d; d: jump w | 0 l m v o u t")
}

// P23.1, P23.2: New, Load and Run end, and don't panic, at programs of which one field, or the number of things, is another; what is taken runs as the model does.
func TestAllPrograms(t *testing.T) {
	ran, refused := 0, 0
	d := dice(81)
	p := whole()
	saved := newMachine(t, p, 6).Save()
	look := func() {
		n := d.below(len(p.Entry)+2) - 1
		decoder.Load(p, saved)
		if !newIs(t, p, n) {
			refused++
			return
		}
		ran++
		all(t, &d, p, n, d.led(p, n, 30))
	}
	look()
	for at := range p.Code {
		i := &p.Code[at]
		for _, field := range []*int{&i.Op, &i.A, &i.B, &i.C} {
			with(field, append(strangeNumbers(), *field+1, *field-1, at, at+1), look)
		}
	}
	for at := range p.Entry {
		with(&p.Entry[at], strangeNumbers(), look)
	}
	with(&p.Encodes, []bool{true, false}, look)
	for n := range p.Code {
		with(&p.Code, [][]api.Instr{p.Code[:n], p.Code[n:]}, look)
	}
	for n := range p.Entry {
		with(&p.Entry, [][]int{p.Entry[:n], p.Entry[n:], nil}, look)
	}
	if ran < 200 || refused < 1000 {
		t.Errorf("%d programs ran, %d were refused", ran, refused)
	}
}
