package raise_test

import (
	"math"
	"slices"
	"sync"
	"testing"
	"unsafe"

	"mortise/api"
	"mortise/raise"
)

// P17.1: the call ends, and doesn't panic, at schemas of which one field, the order or the number of types is another.
func TestAllSchemas(t *testing.T) {
	s := api.Schema{Types: append(itemTypes(), vector(3, 10), list(1<<20, 9), option(18), union(17, 3), structure(18, 6, 15)), Roots: []api.Root{{Name: "a", Type: 19}, {Name: "f0"}}}
	met := map[api.Errno]int{}
	look := func() { met[encoderAll(t, s)]++ }
	look()
	changes(s, look)
	for _, l := range rearranged(s.Types, api.Type{}, boolean(), option(0), list(3, 5), option(len(s.Types)), option(len(s.Types)-1)) {
		turned(&s.Types, [][]api.Type{l}, look)
	}
	for _, l := range rearranged(s.Roots, api.Root{}, api.Root{Name: "b"}, api.Root{Name: "c", Type: -1}) {
		turned(&s.Roots, [][]api.Root{l}, look)
	}
	if met[api.OK] == 0 || met[api.ErrSchema] == 0 || met[api.ErrBig] == 0 {
		t.Errorf("not each answer was met: %v", met)
	}
}

// P17.1: all schemas of one and of two types whose numbers lie at the edges.
func TestAllTypes(t *testing.T) {
	numbers := []int{math.MinInt, -1, 0, 1, 2, 4, 1 << 20, 1<<20 + 1, math.MaxInt}
	parts := [][]api.Part{nil, {{}}, {{Label: "a"}}, {{Label: "a", Type: -1}}, {{Label: "a", Type: 1}}, {{Label: "a"}, {Label: "b", Type: math.MaxInt}}, {{Tag: 255}}, {{Tag: math.MinInt}}}
	for kind := -1; kind <= 10; kind++ {
		for _, n := range numbers {
			for _, elem := range numbers {
				for _, p := range parts {
					x := api.Type{Kind: kind, N: n, Elem: elem, Parts: p}
					encoderAll(t, schema(x))
					encoderAll(t, schema(boolean(), x))
					encoderAll(t, schema(number(), x))
				}
			}
		}
	}
}

// roomy: a copy with spare room in all its lists, and something in it that would be a fault.
func roomy(s api.Schema) api.Schema {
	out := api.Schema{Types: slices.Clip(slices.Clone(s.Types)), Roots: slices.Clip(slices.Clone(s.Roots))}
	out.Types = append(out.Types, api.Type{}, option(-1), uN(7))[:len(s.Types)]
	out.Roots = append(out.Roots, api.Root{Type: -1}, api.Root{Name: "a"})[:len(s.Roots)]
	for i := range out.Types {
		l := slices.Clip(slices.Clone(s.Types[i].Parts))
		out.Types[i].Parts = append(l, api.Part{Label: "?", Tag: -1, Type: -1}, api.Part{})[:len(l)]
	}
	return out
}

// held: all that the lists of a schema hold, spare room too.
func held(s api.Schema) (out []any) {
	for _, x := range s.Types[:cap(s.Types)] {
		out = append(out, x.Kind, x.N, x.Elem, len(x.Parts))
		for _, p := range x.Parts[:cap(x.Parts)] {
			out = append(out, p)
		}
	}
	for _, r := range s.Roots[:cap(s.Roots)] {
		out = append(out, r)
	}
	return out
}

// P17.1: a schema that is handed in is not changed, spare room too, and spare room is not looked at.
func TestChangesNothing(t *testing.T) {
	big := schema(uN(1), vector(1<<20, 0), vector(17, 1))
	for _, s := range slices.Concat(refused(), someSchemas(t), []api.Schema{big}) {
		x := roomy(s)
		before := held(x)
		encoderAll(t, x)
		if !slices.Equal(before, held(x)) {
			t.Errorf("P17.1: Encoder(%s): what is handed in is changed", brief(s))
		}
	}
	long := roomy(schema(slices.Repeat([]api.Type{boolean()}, 1<<19+1)...))
	before := held(long)
	refusedIs(t, long, api.ErrLong)
	if !slices.Equal(before, held(long)) {
		t.Errorf("P17.1: what is handed in is changed beside ErrLong")
	}
}

// overwrite writes over a list, spare room too.
func overwrite[T any](l []T, x T) {
	l = l[:cap(l)]
	for k := range l {
		l[k] = x
	}
}

// all: it holds nothing else, spare room too.
func all[T comparable](l []T, x T) bool {
	return !slices.ContainsFunc(l[:cap(l)], func(y T) bool { return y != x })
}

// P17.1: what is answered is new memory, spare room too: it shares none with another answer or with what was handed in, and is not kept.
func TestNewMemory(t *testing.T) {
	for _, s := range someSchemas(t) {
		x := roomy(s)
		before := held(x)
		want := encoded(t, s)
		first, second := encoded(t, x), encoded(t, x)
		overwrite(first.Code, api.Instr{Op: -7})
		overwrite(first.Entry, -7)
		if !same(second, want) {
			t.Errorf("P17.1: Encoder(%s): two answers share memory", brief(s))
		}
		overwrite(second.Code, api.Instr{Op: -8})
		overwrite(second.Entry, -8)
		if !all(first.Code, api.Instr{Op: -7}) || !all(first.Entry, -7) {
			t.Errorf("P17.1: Encoder(%s): two answers share spare room", brief(s))
		}
		if !slices.Equal(before, held(x)) {
			t.Errorf("P17.1: Encoder(%s): an answer shares memory with what was handed in", brief(s))
		}
		third := encoded(t, x)
		for i := range x.Types {
			overwrite(x.Types[i].Parts, api.Part{Tag: -1, Type: -1})
		}
		overwrite(x.Types, api.Type{N: -1, Elem: -1})
		overwrite(x.Roots, api.Root{Type: -1})
		if !same(third, want) {
			t.Errorf("P17.1: Encoder(%s): the answer is changed with what was handed in", brief(s))
		}
		encoderIs(t, s, want)
	}
}

// P17.1: each call looks at what it is handed now.
func TestLooksAgain(t *testing.T) {
	name := []byte("f1")
	s := schema(uN(1), number(), vector(3, 1), structure(0, 2))
	s.Types[3].Parts[1].Label = unsafe.String(&name[0], 2)
	ahead := []string{"number 0 1; ret", "leb; ret", "many 3; room -1; [s] slot -1; append 1; again s; ret", "fields 2; room 5; number 0 1; slot 1; append 2; ret"}
	encoderIs(t, s, program(ahead...))
	name[1] = '0'
	refusedIs(t, s, api.ErrSchema)
	name[1] = '2'
	encoderIs(t, s, program(ahead...))
	s.Types[1] = uN(2)
	encoderIs(t, s, program(ahead[0], "number 0 2; ret", "many 3; [i] number -1 2; again i; ret", "fields 2; number 0 1; enter 1 2; ret"))
	s.Types[2].N = 1
	s.Types[3].Parts = s.Types[3].Parts[:1]
	encoderIs(t, s, program(ahead[0], "number 0 2; ret", "many 1; [i] number -1 2; again i; ret", "fields 1; number 0 1; ret"))
	s.Types[3] = vector(1<<20, 2)
	s.Types[2].N = 9
	refusedIs(t, s, api.ErrBig)
	s.Types[2].N = 8
	encoderIs(t, s, program(ahead[0], "number 0 2; ret", "many 8; [i] number -1 2; again i; ret", "many 1048576; [i] each 16 2; again i; ret"))
	s.Types = s.Types[:0]
	encoderIs(t, s, program())
}

// P17.1: with an error the program is the zero one, whatever was answered ahead.
func TestZeroBesideError(t *testing.T) {
	right := schema(boolean(), list(3, 0), structure(0, 1))
	for _, s := range refused() {
		encoderAll(t, right)
		refusedIs(t, s, api.ErrSchema)
		refusedIs(t, schema(uN(8), vector(1<<20, 0), structure(1, 1, 0)), api.ErrBig)
	}
}

// P17.1: what a call answers hangs on its argument alone: not on others at the same time.
func TestSameEachTime(t *testing.T) {
	all := someSchemas(t)
	want := make([]api.Program, len(all))
	for i, s := range all {
		want[i] = encoded(t, s)
	}
	var wait sync.WaitGroup
	wrong := make([]int, 8)
	for n := range wrong {
		wait.Go(func() {
			for i := range all {
				k := (i*(2*n+1) + n) % len(all)
				if p, e := raise.Encoder(all[k]); e != api.OK || !same(p, want[k]) {
					wrong[n]++
				}
			}
		})
	}
	wait.Wait()
	if slices.Max(wrong) > 0 {
		t.Errorf("P17.1: other answers at the same time: %v", wrong)
	}
}
