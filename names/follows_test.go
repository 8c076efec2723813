package names_test

import (
	"slices"
	"strconv"
	"strings"
	"testing"
	"unsafe"

	"mortise/api"
	"mortise/names"
)

// P8.3: the first definition of a name, of any source; nothing but names is looked at.
func TestFind(t *testing.T) {
	found(t, api.Source{}, "a", 0, api.ErrUnknown)
	found(t, api.Source{}, "", 0, api.ErrUnknown)
	odd := []string{"", "u8", "list", "A", "a b", "\xff\xfe", "é", "a\x00", strings.Repeat("n", 32), strings.Repeat("n", 33), strings.Repeat("x", 70000), "a"}
	var s api.Source
	for i, name := range odd {
		found(t, s, name, 0, api.ErrUnknown)
		s.Defs = append(s.Defs, api.Def{Name: name, At: -i})
	}
	for i, name := range odd {
		found(t, s, name, i, api.OK)
	}
	for _, name := range []string{"b", "aa", "a ", "\xff", "e", strings.Repeat("n", 31), strings.Repeat("n", 34)} {
		found(t, s, name, 0, api.ErrUnknown)
	}
	s.Defs = slices.Repeat(s.Defs, 3)
	for i, name := range odd {
		found(t, s, name, i, api.OK)
	}
	var many api.Source
	for i := range 1000 {
		many.Defs = append(many.Defs, def("d"+strconv.Itoa(i/2), anOpt, anOpt))
	}
	for _, i := range []int{0, 1, 127, 128, 129, 255, 256, 499} {
		found(t, many, "d"+strconv.Itoa(i), 2*i, api.OK)
	}
	found(t, many, "d500", 0, api.ErrUnknown)
	// A label, and a name that is only used, are none.
	found(t, parsed(t, "type a=struct{x:b};"), "x", 0, api.ErrUnknown)
	found(t, parsed(t, "type a=struct{x:b};"), "b", 0, api.ErrUnknown)
	for _, text := range append(goodTexts(), badTexts()...) {
		s := parsed(t, text)
		for _, d := range s.Defs {
			found(t, s, d.Name, number(s, d.Name), api.OK)
			found(t, s, d.Name+"z", 0, api.ErrUnknown)
		}
	}
}

// chance: a source of n definitions that looks like chance, in which all is well, and each stands behind those that it uses.
func chance(d *dice, n int) api.Source {
	var s api.Source
	known := map[string]int{}
	for i := range n {
		l := []api.Expr{{Kind: api.KindStruct, Kids: 1 + d.below(4)}}
		for k := range l[0].Kids {
			label := "f" + strconv.Itoa(k)
			if d.below(3) == 0 {
				l, label = append(l, api.Expr{Kind: api.KindList, Kids: 1, N: d.below(9), Label: label}), ""
			}
			x := api.Expr{Kind: api.KindVarint, Label: label}
			if j := d.below(i + 1); j < i && known[s.Defs[j].Name] < 60 {
				x.Kind, x.Name = api.KindName, s.Defs[j].Name
			}
			l = append(l, x)
		}
		name := "d" + strconv.Itoa(i)
		s.Defs = append(s.Defs, def(name, l...))
		known[name] = deepness(s, l, 0, known)
	}
	return s
}

// ordered: a source whose definitions stand in an order of their numbers.
func ordered(s api.Source, order []int) api.Source {
	var out api.Source
	for _, i := range order {
		out.Defs = append(out.Defs, s.Defs[i])
	}
	return clone(out)
}

// P8.6: definitions that stand behind those that they use are told as they stand; put in Order's order they do.
func TestOrder(t *testing.T) {
	d := dice(6)
	for n := range 120 {
		s := chance(&d, n)
		if f := checkAll(t, s); f.Err != api.OK {
			t.Fatalf("P8.2: %s: %v", brief(s), f)
		}
		if o, _ := names.Order(s); !slices.Equal(o, numbersTo(n)) {
			t.Errorf("P8.6: %d definitions, each behind those that it uses: %s", n, short(o))
		}
		s = ordered(s, d.shuffled(n))
		checkAll(t, s)
		o, _ := names.Order(s)
		if again, _ := names.Order(ordered(s, o)); !slices.Equal(again, numbersTo(n)) {
			t.Errorf("P8.6: %s in the order %s is told %s", brief(s), short(o), short(again))
		}
	}
}

// renamed: a source whose names, or labels, are turned into others.
func renamed(s api.Source, name, label func(string) string) api.Source {
	out := clone(s)
	for i := range out.Defs {
		out.Defs[i].Name = name(out.Defs[i].Name)
		for k, x := range out.Defs[i].Type {
			if x.Name != "" {
				out.Defs[i].Type[k].Name = name(x.Name)
			}
			if x.Label != "" {
				out.Defs[i].Type[k].Label = label(x.Label)
			}
		}
	}
	return out
}

// P8.7: other names and other labels, one to one, change no answer: those whose order is another one, the longest, and those that are like labels or like names.
func TestNamesAreNothing(t *testing.T) {
	stay := func(s string) string { return s }
	maps := []func() func(string) string{
		func() func(string) string { return func(s string) string { return "n_" + s } },
		func() func(string) string {
			return func(s string) string { return s + "_" + strings.Repeat("z", 31-len(s)) }
		},
		func() func(string) string {
			given, next := map[string]string{}, 9999
			return func(s string) string {
				if given[s] == "" {
					given[s] = "k" + strconv.Itoa(next)
					next--
				}
				return given[s]
			}
		},
	}
	d := dice(7)
	var sources []api.Source
	for _, text := range append(goodTexts(), badTexts()...) {
		sources = append(sources, placed(parsed(t, text)))
	}
	for n := range 30 {
		sources = append(sources, ordered(chance(&d, n), d.shuffled(n)))
	}
	for _, s := range sources {
		order, _ := names.Order(s)
		depths, f := names.Depth(s)
		for _, m := range maps {
			told(t, renamed(s, m(), stay), order, depths, f)
			told(t, renamed(s, stay, m()), order, depths, f)
			told(t, renamed(s, m(), m()), order, depths, f)
		}
	}
}

// P8.8: another order of the definitions makes and takes no fault, and changes no depth.
func TestInAnyOrder(t *testing.T) {
	d := dice(8)
	for _, text := range append(goodTexts(), badTexts()...) {
		s := placed(parsed(t, text))
		depths, f := names.Depth(s)
		orders := permutations(min(len(s.Defs), 5))
		if len(s.Defs) > 5 {
			orders = nil
			for range 20 {
				orders = append(orders, d.shuffled(len(s.Defs)))
			}
		}
		for _, p := range orders {
			other := ordered(s, p)
			checkAll(t, other)
			got, g := names.Depth(other)
			if (g.Err == api.OK) != (f.Err == api.OK) {
				t.Errorf("P8.8: %.100q: %v, and in the order %v %v", text, f, p, g)
			}
			for k := range got {
				if got[k] != depths[p[k]] {
					t.Errorf("P8.8: %.100q: %s, and in the order %v %s", text, short(depths), p, short(got))
					break
				}
			}
		}
	}
}

// P8.9: a use that is turned to the definition itself, or to one that leads to it, is a ring; to any other one, none.
func TestTurnedUse(t *testing.T) {
	d := dice(9)
	var sources []api.Source
	for _, text := range goodTexts() {
		if s := placed(parsed(t, text)); len(s.Defs) < 20 {
			sources = append(sources, s)
		}
	}
	for n := range 16 {
		sources = append(sources, placed(ordered(chance(&d, n), d.shuffled(n))))
	}
	turned := 0
	for _, s := range sources {
		leads := closed(matrix(s))
		for i := range s.Defs {
			for k := range s.Defs[i].Type {
				x := &s.Defs[i].Type[k]
				if x.Kind != api.KindName {
					continue
				}
				held := x.Name
				for j := range s.Defs {
					x.Name = s.Defs[j].Name
					f := checkAll(t, s)
					ring := j == i || leads[j][i]
					if ring != (f.Err == api.ErrRing) {
						t.Errorf("P8.9: %s: node %d of definition %d is turned to %d: %v", brief(s), k, i, j, f)
					}
					if ring {
						turned++
					}
				}
				x.Name = held
			}
		}
	}
	if turned < 100 {
		t.Errorf("P8.9: only %d uses are turned round", turned)
	}
}

// roomy: a source with spare room in all its lists, and something in it that would be a fault.
func roomy(s api.Source) api.Source {
	s = clone(s)
	n := len(s.Defs)
	s.Defs = append(s.Defs, def("a", aBool), def("", anOpt))[:n]
	for i := range s.Defs {
		l := s.Defs[i].Type
		s.Defs[i].Type = append(l, api.Expr{Kind: api.KindName, Name: "unknown"}, aField, api.Expr{At: 9})[:len(l)]
	}
	return s
}

// all: all that a source's lists hold, places and spare room too.
func all(s api.Source) (defs []api.Def, nodes []api.Expr) {
	for _, d := range s.Defs[:cap(s.Defs)] {
		nodes = append(nodes, d.Type[:cap(d.Type)]...)
		defs = append(defs, api.Def{Name: d.Name, At: d.At})
	}
	return defs, nodes
}

// P8.1: what is handed in is not changed, spare room too, and spare room is not looked at.
func TestChangesNothing(t *testing.T) {
	sameDef := func(a, b api.Def) bool { return a.Name == b.Name && a.At == b.At }
	for _, text := range append(append(goodTexts(), badTexts()...), "refused") {
		s := source(def("a", anOpt))
		if text != "refused" {
			s = placed(parsed(t, text))
		}
		a := roomy(s)
		defs, nodes := all(a)
		order, _ := names.Order(s)
		depths, f := names.Depth(s)
		told(t, a, order, depths, f)
		names.Find(a, "a")
		names.Find(a, "none")
		if d, n := all(a); !slices.EqualFunc(defs, d, sameDef) || !slices.Equal(nodes, n) {
			t.Errorf("P8.1: %.100q: what is handed in is changed", text)
		}
	}
}

// P8.1: what is answered is new memory, spare room too: it may be written over.
func TestNewMemory(t *testing.T) {
	spoil := func(l []int) {
		for i := range l[:cap(l)] {
			l[:cap(l)][i] = -7
		}
	}
	for _, text := range goodTexts() {
		s := parsed(t, text)
		order, depths, f := model(s)
		o1, _ := names.Order(s)
		d1, _ := names.Depth(s)
		o2, _ := names.Order(s)
		d2, _ := names.Depth(s)
		spoil(o1)
		spoil(d1)
		if !slices.Equal(o2, order) || !slices.Equal(d2, depths) {
			t.Errorf("P8.1: %.100q: two answers share memory", text)
		}
		told(t, s, order, depths, f)
		spoil(o2)
		if !slices.Equal(d2, depths) {
			t.Errorf("P8.1: %.100q: Order's and Depth's answers share memory", text)
		}
		told(t, s, order, depths, f)
	}
}

// P8.1: with a fault the other answer is nothing, whatever was answered ahead.
func TestZeroBesideFault(t *testing.T) {
	for _, text := range badTexts() {
		s := parsed(t, text)
		names.Order(parsed(t, "type a=b;type b=u8;"))
		o, f := names.Order(s)
		d, g := names.Depth(s)
		if o != nil || d != nil || f.Err == api.OK || g != f {
			t.Errorf("P8.1: %.100q: Order %v, %v, Depth %v, %v", text, o, f, d, g)
		}
	}
	if n, e := names.Find(parsed(t, "type a=b;type b=u8;"), "c"); n != 0 || e != api.ErrUnknown {
		t.Errorf("P8.1: Find of none = %d, %d", n, e)
	}
}

// P8.1: nothing is kept: each call looks at what it is handed now, names' bytes too.
func TestLooksAgain(t *testing.T) {
	name := []byte("abc")
	held := unsafe.String(&name[0], len(name))
	s := source(api.Def{Name: "x", At: 3, Type: []api.Expr{{Kind: api.KindName, Name: held, At: 4}}}, api.Def{Name: "abc", At: 5, Type: []api.Expr{aBool}})
	told(t, s, []int{1, 0}, []int{1, 1}, api.Fault{})
	copy(name, "xyz")
	refused(t, s, api.ErrUnknown, 4)
	found(t, s, held, 0, api.ErrUnknown)
	copy(name, "9yz")
	refused(t, s, api.ErrSource, 0)
	copy(name, "abc")
	told(t, s, []int{1, 0}, []int{1, 1}, api.Fault{})
	found(t, s, held, 1, api.OK)
	s.Defs[0].Name = held
	refused(t, s, api.ErrTwice, 5)
	s.Defs[1].Name = "x"
	refused(t, s, api.ErrRing, 3)
	s.Defs[0].Type[0].Name = "x"
	told(t, s, []int{1, 0}, []int{1, 1}, api.Fault{})
	s.Defs[1].Type = []api.Expr{anOpt, aBool}
	told(t, s, []int{1, 0}, []int{2, 2}, api.Fault{})
}

// P8.1: the same source is answered the same each time.
func TestSameEachTime(t *testing.T) {
	for _, text := range []string{"type a=struct{x:u8,y:u8,x:q,y:q};type a=r;type b=s;", "type a=b;type b=a;type c=d;type d=c;", "type z=struct{p:b,q:a};type a=u8;type b=a;type c=z;"} {
		s := placed(parsed(t, text))
		order, depths, f := model(s)
		for range 200 {
			told(t, s, order, depths, f)
		}
	}
}

// P8.1: the greatest sources come to an end soon: many nodes, and all definitions leading to one another by many ways.
func TestGreat(t *testing.T) {
	l := []api.Expr{{Kind: api.KindStruct, Kids: 64}}
	for i := range 64 {
		l = append(l, api.Expr{Kind: api.KindUnion, Kids: 64, Label: "f" + strconv.Itoa(i)})
		for k := range 64 {
			l = append(l, api.Expr{Kind: api.KindName, Name: "d" + strconv.Itoa((64*i+k)%256), Tag: k})
		}
	}
	var s api.Source
	for i := range 256 {
		s.Defs = append(s.Defs, def("d"+strconv.Itoa(i), l...))
	}
	s = clone(s)
	s.Defs[0].At = 4
	refused(t, s, api.ErrRing, 4)
	// Each leads to all ahead: of those the ways are more than could be gone one by one.
	for i := range s.Defs {
		s.Defs[i].At = i
		for k := range s.Defs[i].Type {
			if x := &s.Defs[i].Type[k]; i > 0 && x.Kind == api.KindName {
				x.Name = "d" + strconv.Itoa(k%i)
			}
		}
	}
	s.Defs[0].Type = []api.Expr{aBool}
	refused(t, s, api.ErrDeep, 32)
	last := &s.Defs[255].Type[len(l)-1]
	last.Name, last.At = "q", 77
	refused(t, s, api.ErrUnknown, 77)
	last.Tag = 0
	refused(t, s, api.ErrTwice, 77)
	last.Tag = -1
	refused(t, s, api.ErrSource, 0)
}
