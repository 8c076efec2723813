package lower_test

import (
	"slices"
	"testing"

	"mortise/api"
	"mortise/lower"
)

// someSchemas: such as are taken, of every kind of type.
func someSchemas(t *testing.T) []api.Schema {
	out := []api.Schema{
		{}, schema(itemTypes()...), schema(tower(64)...), {Types: tower(5), Roots: []api.Root{{Name: "a", Type: 4}, {Name: "b"}, {Name: "c", Type: 2}}},
		schema(append(itemTypes(), union(make([]int, 64)...), structure(slices.Repeat([]int{10}, 64)...), list(9, 19), option(18))...),
		built(t, "type a=struct{a:u8,b:list<u16,9>,c:u8};"), built(t, "type a=union{1:bool,7:varint};"), built(t, "type p=struct{x:u16,y:list<bool,3>}; type a=list<p,9>; type b=option<p>; type c=union{0:p,1:a,2:p};"),
	}
	d := dice(5)
	for n := range 150 {
		out = append(out, chance(&d, n%60))
	}
	return out
}

// decoded: the program of a schema that is taken.
func decoded(t *testing.T, s api.Schema) api.Program {
	t.Helper()
	p, e := lower.Decoder(s)
	if e != api.OK || len(p.Entry) != len(s.Types) {
		t.Fatalf("P16.1: Decoder(%s): error %d, %d entries", brief(s), e, len(p.Entry))
	}
	return p
}

// frontOf: the first so many types, and the roots that stand.
func frontOf(s api.Schema, n int) api.Schema {
	out := api.Schema{Types: slices.Clone(s.Types[:n])}
	for _, r := range s.Roots {
		if r.Type < n {
			out.Roots = append(out.Roots, r)
		}
	}
	return out
}

// endsOf: where each routine ends.
func endsOf(p api.Program) []int { return append(slices.Clone(p.Entry), len(p.Code))[1:] }

// isFront: the one program is what the first so many types of the other one have.
func isFront(front, p api.Program, n int) bool {
	end := append(slices.Clone(p.Entry), len(p.Code))[n]
	return same(front, api.Program{Code: p.Code[:end], Entry: p.Entry[:n]})
}

// P16.6: with fewer of the last types the program is a front.
func TestFront(t *testing.T) {
	for _, s := range someSchemas(t) {
		p := decoded(t, s)
		for n := range len(s.Types) + 1 {
			x := frontOf(s, n)
			front := decoded(t, x)
			if !isFront(front, p, n) {
				t.Errorf("P16.6: of %s the first %d types have %s, not a front of %s", brief(s), n, brief(front), brief(p))
			}
			if n%7 == 0 {
				follows(t, x, front)
			}
		}
	}
}

// P16.6: what comes behind says nothing, other types, great and small, used or not.
func TestBehind(t *testing.T) {
	for _, s := range someSchemas(t) {
		p := decoded(t, s)
		n := len(s.Types)
		for _, more := range [][]api.Type{{boolean()}, {number(), uN(8)}, {uN(1), union(n), structure(n, n)}, {uN(1), vector(1<<20, n), list(1<<20, n), vector(1<<20, n)}} {
			longer := decoded(t, api.Schema{Types: slices.Concat(s.Types, more), Roots: s.Roots})
			if !isFront(p, longer, n) {
				t.Errorf("P16.6: %s with %s behind: %s, not longer than %s", brief(s), brief(more), brief(longer), brief(p))
			}
		}
	}
}

// moved: the schema with a type put at a place, every other type being made of those that it was made of.
func moved(s api.Schema, at int, x api.Type) api.Schema {
	number := func(n *int) {
		if *n >= at {
			*n++
		}
	}
	var out api.Schema
	for _, y := range s.Types {
		y.Parts = slices.Clone(y.Parts)
		for k := range y.Parts {
			number(&y.Parts[k].Type)
		}
		number(&y.Elem)
		if y.Kind < api.KindVector || y.Kind > api.KindOption {
			y.Elem = 0
		}
		out.Types = append(out.Types, y)
	}
	out.Types = slices.Insert(out.Types, at, x)
	for _, r := range s.Roots {
		number(&r.Type)
		out.Roots = append(out.Roots, r)
	}
	return out
}

// loose: a type's routine with targets that are counted from its own beginning, and types that are counted as if the one at a place weren't there.
func loose(p api.Program, own, without int) []api.Instr {
	l := slices.Clone(p.Code[p.Entry[own]:endsOf(p)[own]])
	for k := range l {
		switch i := &l[k]; i.Op {
		case 7, 9, 11, 12, 13, 14, 15, 19:
			i.B -= p.Entry[own]
		case 16, 17:
			if i.C > without {
				i.C--
			}
		}
	}
	return l
}

// P16.6: a type's routine hangs on it and on those that it is made of alone: a type that is put between says nothing, but that numbers are others.
func TestBetween(t *testing.T) {
	for _, s := range someSchemas(t) {
		p := decoded(t, s)
		for at := range len(s.Types) + 1 {
			q := decoded(t, moved(s, at, []api.Type{boolean(), number(), uN(4)}[at%3]))
			for own := range s.Types {
				later := own
				if own >= at {
					later++
				}
				if !slices.Equal(loose(p, own, len(s.Types)), loose(q, later, at)) {
					t.Fatalf("P16.6: of %s the routine of type %d is another one with a type put at %d", brief(s), own, at)
				}
			}
		}
	}
}

// P16.1: routines stand one behind the other, by the types' numbers, with nothing between; every target lies in its own routine, and each routine has one ret, its last.
func TestRoutinesStandAlone(t *testing.T) {
	for _, s := range someSchemas(t) {
		p := decoded(t, s)
		if p.Encodes || len(s.Types) > 0 && p.Entry[0] != 0 {
			t.Errorf("P16.1: Decoder(%s) = %s", brief(s), brief(p))
		}
		for own, end := range endsOf(p)[:len(s.Types)] {
			from := p.Entry[own]
			for at := from; at < end; at++ {
				i := p.Code[at]
				if (i.Op == 20) != (at == end-1) {
					t.Errorf("P16.1: Decoder(%s): type %d has a ret in the middle, or none", brief(s), own)
				}
				if slices.Contains([]int{7, 9, 11, 12, 13, 14, 15, 19}, i.Op) && (i.B <= from || i.B >= end) {
					t.Errorf("P16.2: Decoder(%s): instruction %d of type %d leads to %d", brief(s), at, own, i.B)
				}
			}
		}
		follows(t, s, p)
	}
}

// P16.4: the longest routine of each kind, in numbers.
func TestSmall(t *testing.T) {
	for _, c := range []struct {
		last api.Type
		n    int
	}{
		{uN(8), 2}, {boolean(), 2}, {number(), 2}, {vector(1<<20, 0), 4}, {vector(1<<20, 5), 8}, {list(1<<20, 0), 5}, {list(1<<20, 5), 10}, {option(5), 3}, {option(14), 3},
		{union(5), 4}, {union(5, 0), 7}, {union(make([]int, 64)...), 193}, {structure(0), 3}, {structure(5), 5}, {structure(0, 5), 6}, {structure(5, 10, 12), 11}, {structure(make([]int, 64)...), 66}, {structure(slices.Repeat([]int{5}, 64)...), 194},
	} {
		s := schema(append(itemTypes(), c.last)...)
		p := decoded(t, s)
		if n := len(p.Code) - p.Entry[len(items())]; n != c.n {
			t.Errorf("P16.4: %s: %d instructions, want %d", brief(c.last), n, c.n)
		}
		small(t, s, p)
	}
}
