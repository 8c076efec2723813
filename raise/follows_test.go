package raise_test

import (
	"slices"
	"testing"

	"mortise/api"
	"mortise/raise"
)

// someSchemas: such as are taken, of every kind of type.
func someSchemas(t *testing.T) []api.Schema {
	out := []api.Schema{
		{}, schema(itemTypes()...), schema(tower(64)...), {Types: tower(5), Roots: []api.Root{{Name: "a", Type: 4}, {Name: "b"}, {Name: "c", Type: 2}}},
		schema(append(itemTypes(), union(make([]int, 64)...), structure(slices.Repeat([]int{10}, 64)...), list(9, 19), option(18))...),
		built(t, "type a=struct{a:u8,b:list<u16,9>,c:u8};"), built(t, "type a=union{1:bool,7:varint};"), built(t, "type p=struct{x:u16,y:list<bool,3>}; type a=list<p,9>; type b=option<p>; type c=union{0:p,1:a,2:p};"),
	}
	d := dice(5)
	for n := range 150 {
		out = append(out, chance(&d, n%60))
	}
	return out
}

// encoded: the program of a schema that is taken.
func encoded(t *testing.T, s api.Schema) api.Program {
	t.Helper()
	p, e := raise.Encoder(s)
	if e != api.OK || len(p.Entry) != len(s.Types) {
		t.Fatalf("P17.2: Encoder(%s): error %d, %d entries", brief(s), e, len(p.Entry))
	}
	return p
}

// frontOf: the first so many types, and the roots that stand.
func frontOf(s api.Schema, n int) api.Schema {
	out := api.Schema{Types: slices.Clone(s.Types[:n])}
	for _, r := range s.Roots {
		if r.Type < n {
			out.Roots = append(out.Roots, r)
		}
	}
	return out
}

// endsOf: where each routine ends.
func endsOf(p api.Program) []int { return append(slices.Clone(p.Entry), len(p.Code))[1:] }

// isFront: the one program is what the first so many types of the other one have.
func isFront(front, p api.Program, n int) bool {
	end := append(slices.Clone(p.Entry), len(p.Code))[n]
	return same(front, api.Program{Encodes: true, Code: p.Code[:end], Entry: p.Entry[:n]})
}

// P17.4: with fewer of the last types the program is a front.
func TestFront(t *testing.T) {
	for _, s := range someSchemas(t) {
		p := encoded(t, s)
		for n := range len(s.Types) + 1 {
			x := frontOf(s, n)
			front := encoded(t, x)
			if !isFront(front, p, n) {
				t.Errorf("P17.4: of %s the first %d types have %s, not a front of %s", brief(s), n, brief(front), brief(p))
			}
			if n%7 == 0 {
				follows(t, x, front)
			}
		}
	}
}

// P17.4: what comes behind says nothing, other types, great and small, used or not.
func TestBehind(t *testing.T) {
	for _, s := range someSchemas(t) {
		p := encoded(t, s)
		n := len(s.Types)
		for _, more := range [][]api.Type{{boolean()}, {number(), uN(8)}, {uN(1), union(n), structure(n, n)}, {uN(1), vector(1<<20, n), list(1<<20, n), vector(1<<20, n)}} {
			longer := encoded(t, api.Schema{Types: slices.Concat(s.Types, more), Roots: s.Roots})
			if !isFront(p, longer, n) {
				t.Errorf("P17.4: %s with %s behind: %s, not longer than %s", brief(s), brief(more), brief(longer), brief(p))
			}
		}
	}
}

// moved: the schema with a type put at a place, every other type being made of those that it was made of.
func moved(s api.Schema, at int, x api.Type) api.Schema {
	number := func(n *int) {
		if *n >= at {
			*n++
		}
	}
	var out api.Schema
	for _, y := range s.Types {
		y.Parts = slices.Clone(y.Parts)
		for k := range y.Parts {
			number(&y.Parts[k].Type)
		}
		number(&y.Elem)
		if y.Kind < api.KindVector || y.Kind > api.KindOption {
			y.Elem = 0
		}
		out.Types = append(out.Types, y)
	}
	out.Types = slices.Insert(out.Types, at, x)
	for _, r := range s.Roots {
		number(&r.Type)
		out.Roots = append(out.Roots, r)
	}
	return out
}

// loose: a type's routine with targets that are counted from its own beginning, and types that are counted as if the one at a place weren't there.
func loose(p api.Program, own, without int) []api.Instr {
	l := slices.Clone(p.Code[p.Entry[own]:endsOf(p)[own]])
	for k := range l {
		switch i := &l[k]; i.Op {
		case 9, 19, 40, 47:
			i.B -= p.Entry[own]
		case 44, 45, 46:
			if i.C > without {
				i.C--
			}
		}
	}
	return l
}

// P17.4: a type's routine hangs on it and on those that it is made of alone: a type that is put between says nothing, but that numbers are others.
func TestBetween(t *testing.T) {
	for _, s := range someSchemas(t) {
		p := encoded(t, s)
		for at := range len(s.Types) + 1 {
			q := encoded(t, moved(s, at, []api.Type{boolean(), number(), uN(4)}[at%3]))
			for own := range s.Types {
				later := own
				if own >= at {
					later++
				}
				if !slices.Equal(loose(p, own, len(s.Types)), loose(q, later, at)) {
					t.Fatalf("P17.4: of %s the routine of type %d is another one with a type put at %d", brief(s), own, at)
				}
			}
		}
	}
}

// P17.2: routines stand one behind the other, by the types' numbers, with nothing between; every target lies in its own routine, whose last instruction is a ret.
func TestRoutinesStandAlone(t *testing.T) {
	for _, s := range someSchemas(t) {
		p := encoded(t, s)
		if !p.Encodes || len(s.Types) > 0 && p.Entry[0] != 0 {
			t.Errorf("P17.2: Encoder(%s) = %s", brief(s), brief(p))
		}
		for own, end := range endsOf(p)[:len(s.Types)] {
			from, rets := p.Entry[own], 1
			if s.Types[own].Kind == api.KindUnion {
				rets = len(s.Types[own].Parts)
			}
			for at := from; at < end; at++ {
				i := p.Code[at]
				if i.Op == 20 {
					rets--
				}
				if slices.Contains([]int{9, 19, 40, 47}, i.Op) && (i.B <= from || i.B >= end) {
					t.Errorf("P17.2: Encoder(%s): instruction %d of type %d leads to %d", brief(s), at, own, i.B)
				}
			}
			if rets != 0 || p.Code[end-1].Op != 20 {
				t.Errorf("P17.2: Encoder(%s): type %d has a ret too many or too few, or no ret as its last instruction", brief(s), own)
			}
		}
		follows(t, s, p)
	}
}

// P17.2: how many instructions the routine of each kind has.
func TestLengths(t *testing.T) {
	for _, c := range []struct {
		last api.Type
		n    int
	}{
		{uN(8), 2}, {boolean(), 2}, {number(), 2}, {vector(1<<20, 0), 4}, {vector(1<<20, 5), 6}, {list(1<<20, 0), 5}, {list(1<<20, 5), 7}, {option(5), 3}, {option(14), 3},
		{union(5), 4}, {union(5, 0), 7}, {union(make([]int, 64)...), 193}, {structure(0), 3}, {structure(5), 5}, {structure(0, 5), 6}, {structure(5, 10, 12), 9}, {structure(make([]int, 64)...), 66}, {structure(slices.Repeat([]int{5}, 64)...), 131},
	} {
		p := encoded(t, schema(append(itemTypes(), c.last)...))
		if n := len(p.Code) - p.Entry[len(items())]; n != c.n {
			t.Errorf("P17.2: %s: %d instructions, want %d", brief(c.last), n, c.n)
		}
	}
}
