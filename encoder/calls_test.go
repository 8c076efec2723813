package encoder_test

import (
	"math"
	"slices"
	"testing"

	"mortise/api"
	"mortise/encoder"
)

// roomy: a copy with spare room in its lists, and something in it that would be a fault.
func roomy(p api.Program) api.Program {
	p = cloned(p)
	p.Code = append(slices.Clip(p.Code), api.Instr{Op: -1}, api.Instr{Op: 20})[:len(p.Code)]
	p.Entry = append(slices.Clip(p.Entry), -1, 0)[:len(p.Entry)]
	return p
}

// roomyNodes: a copy with spare room, and nodes in it that would be taken.
func roomyNodes(v []api.Node) []api.Node {
	return append(slices.Clip(slices.Clone(v)), u(7), b(1), api.Node{Kind: -7})[:len(v)]
}

// held: all that a list holds, spare room too.
func held[T any](l []T) []T { return slices.Clone(l[:cap(l)]) }

// overwrite writes over a list, spare room too.
func overwrite[T any](l []T, x T) {
	l = l[:cap(l)]
	for k := range l {
		l[k] = x
	}
}

// isAll: do all items of a list, spare room too, say this?
func isAll[T comparable](l []T, x T) bool {
	return !slices.ContainsFunc(l[:cap(l)], func(y T) bool { return y != x })
}

// message: a program, a type, and a value that its routine takes.
type message struct {
	p     api.Program
	n     int
	value []api.Node
}

// messages: that look like chance; raise's code and other code.
func (d *dice) messages(t *testing.T, n int) (out []message) {
	t.Helper()
	for len(out) < n {
		s := d.schema(2+d.below(15), 3)
		i := len(s.Types) - 1
		if l := d.value(s, i, 40); l != nil {
			out = append(out, message{raised(t, s), i, l})
		}
		p := d.changed(d.laid(1 + d.below(6)))
		i = d.below(len(p.Entry))
		out = append(out, message{p, i, d.wanted(p, i, 40)})
	}
	return out
}

// P24.1: what is handed in is not changed, spare room too, which is not looked at; nor kept: what is done to it behind the call is not seen.
func TestHandedIn(t *testing.T) {
	d := dice(101)
	for _, x := range d.messages(t, 300) {
		want := runOf(x.p, x.n, x.value, math.MaxInt)
		steps, _ := encoder.Steps(x.p, x.n, x.value, math.MaxInt)
		if want.fault != ok {
			t.Fatalf("P24.2: of %s %v: %s", briefValue(x.value), want.fault, brief(x.p))
		}
		for _, most := range []int{len(want.bytes) - 1, len(want.bytes), math.MaxInt} {
			p, l := roomy(x.p), roomyNodes(x.value)
			code, entry, nodes := held(p.Code), held(p.Entry), held(l)
			got, f := encoder.Run(p, x.n, l, most)
			n, g := encoder.Steps(p, x.n, l, most)
			if !slices.Equal(held(p.Code), code) || !slices.Equal(held(p.Entry), entry) || !slices.Equal(held(l), nodes) {
				t.Fatalf("P24.1: what is handed in is changed: %s", brief(p))
			}
			overwrite(p.Code, api.Instr{Op: 19, B: -7})
			overwrite(p.Entry, -7)
			overwrite(l, api.Node{Kind: -7})
			if most < len(want.bytes) {
				if most >= 0 && f != fault(api.ErrLong, 0) || f.Err == api.OK || got != nil || g != f || n != 0 {
					t.Fatalf("P24.1: beside spare room %v, %v", f, g)
				}
				continue
			}
			if f != ok || string(got) != want.bytes || g != ok || n != steps {
				t.Fatalf("P24.1: beside spare room %s, %v, %d steps, %v, want %s, %d steps", briefBytes(got), f, n, g, briefBytes([]byte(want.bytes)), steps)
			}
			if again := runOf(x.p, x.n, x.value, most); again != want {
				t.Fatalf("P24.1: behind a change of what another call was handed: %v", again.fault)
			}
			if !isAll(p.Code, api.Instr{Op: 19, B: -7}) || !isAll(p.Entry, -7) || !isAll(l, api.Node{Kind: -7}) {
				t.Fatalf("P24.1: later calls write to what was handed in")
			}
		}
	}
}

// P24.1: what is handed out is new memory, spare room too: no other answer shares it.
func TestHandedOut(t *testing.T) {
	d := dice(102)
	var all [][]byte
	var wants []string
	for _, x := range d.messages(t, 300) {
		want := runOf(x.p, x.n, x.value, math.MaxInt).bytes
		for _, most := range []int{len(want), len(want) + 9, math.MaxInt} {
			got, _ := encoder.Run(x.p, x.n, x.value, most)
			all, wants = append(all, got), append(wants, want)
		}
	}
	for k, got := range all {
		if string(got) != wants[k] {
			t.Fatalf("P24.1: answer %d is %s, it was %s", k, briefBytes(got), briefBytes([]byte(wants[k])))
		}
		overwrite(got, 0xee)
	}
	for k, got := range all {
		if !isAll(got, 0xee) {
			t.Fatalf("P24.1: answer %d shares memory", k)
		}
	}
}

// strangeNumbers: such as no operand may be, and the bounds of those that it may.
func strangeNumbers() []int {
	return []int{math.MinInt, math.MinInt + 1, -1 << 32, -65, -2, -1, 0, 1, 2, 3, 4, 7, 8, 9, 63, 64, 65, 255, 256, api.MaxCount, api.MaxCount + 1, api.MaxSize - 1, api.MaxSize, api.MaxSize + 1, 1 << 32, api.Huge, math.MaxInt - 1, math.MaxInt}
}

// strange: a program in which some numbers are such ones.
func (d *dice) strange(p api.Program) api.Program {
	p = cloned(p)
	numbers := strangeNumbers()
	for range 1 + d.below(3) {
		i := &p.Code[d.below(len(p.Code))]
		to := []*int{&i.Op, &i.A, &i.A, &i.B, &i.B, &i.C, &p.Entry[d.below(len(p.Entry))]}[d.below(7)]
		*to = numbers[d.below(len(numbers))]
		if d.below(4) == 0 {
			*i = d.instr(len(p.Code)+2, len(p.Entry)+1)
		}
	}
	if d.below(9) == 0 {
		p.Encodes = false
	}
	return p
}

// nothingPanics: Run and Steps end, agree, and answer nothing beside an error.
func nothingPanics(t *testing.T, p api.Program, n int, l []api.Node, most int) api.Fault {
	t.Helper()
	defer func() {
		if given := recover(); given != nil {
			t.Fatalf("P24.1: a panic: %v: %s: type %d, %s, at most %d", given, brief(p), n, briefValue(l), most)
		}
	}()
	got, f := encoder.Run(p, n, l, most)
	steps, g := encoder.Steps(p, n, l, most)
	if f != g || f != ok && (got != nil || steps != 0) || f == ok && (len(got) > most || steps < 2) {
		t.Fatalf("P24.1: Run %s, %v, Steps %d, %v: %s: type %d, %s, at most %d", briefBytes(got), f, steps, g, brief(p), n, briefValue(l), most)
	}
	return f
}

// P24.1: no call panics, and every one ends: at programs, numbers and nodes of all kinds.
func TestNothingPanics(t *testing.T) {
	d := dice(103)
	seen := count{}
	caps := strangeNumbers()
	for _, x := range d.messages(t, 6000) {
		other := d.strange(x.p)
		for range 3 {
			l := d.others(x.value, d.below(len(x.value)))[d.below(10)]
			most := caps[d.below(len(caps))]
			if d.below(3) > 0 {
				most = 1 << 28
			}
			seen[nothingPanics(t, other, x.n, x.value, most).Err]++
			seen[nothingPanics(t, other, x.n, l, most).Err]++
			seen[nothingPanics(t, other, caps[d.below(len(caps))], l, most).Err]++
			seen[nothingPanics(t, x.p, x.n, l, most).Err]++
		}
	}
	for _, p := range []api.Program{{}, {Encodes: true}, {Encodes: true, Entry: []int{0}}, {Encodes: true, Code: []api.Instr{{}}}, {Encodes: true, Code: []api.Instr{{Op: 20}}, Entry: []int{0, 0, 0}}} {
		for _, n := range caps {
			for _, most := range caps {
				nothingPanics(t, p, n, v(u(1)), most)
				nothingPanics(t, p, n, nil, most)
			}
		}
	}
	for _, e := range []api.Errno{api.OK, api.ErrPlace, api.ErrLong, api.ErrNode, api.ErrKind, api.ErrValue, api.ErrItems, api.ErrOp, api.ErrCode} {
		if seen[e] < 40 {
			t.Errorf("error %d was answered only %d times: %v", e, seen[e], seen)
		}
	}
}
