package show_test

import (
	"math"
	"slices"
	"strconv"
	"strings"
	"testing"
	"unsafe"

	"mortise/api"
	"mortise/show"
	"mortise/syntax"
	"mortise/tokens"
)

var (
	aBool   = api.Expr{Kind: api.KindBool}
	anOpt   = api.Expr{Kind: api.KindOption, Kids: 1}
	aStruct = api.Expr{Kind: api.KindStruct, Kids: 1}
	aUnion  = api.Expr{Kind: api.KindUnion, Kids: 1}
	aField  = api.Expr{Kind: api.KindBool, Label: "x"}
)

// P7.2: the chapter's examples, and DOC.md's.
func TestPrintExamples(t *testing.T) {
	for _, c := range [][2]string{
		{"type a = u8 ; # a byte", "type a=u8;"},
		{"type  p = struct { x : u16, y: list< a ,3 > } ; type a = bool;", "type p=struct{x:u16,y:list<a,3>};type a=bool;"},
		{"type u=union{3:u8,0:option<varint>};", "type u=union{3:u8,0:option<varint>};"},
		{"", ""},
		{"type  a = u8 ; # a byte", "type a=u8;"},
		{" \n\t# type a = u8;", ""},
		{"type v=vector < vector<u64, 7> , 0 >;\n\ntype w =v\n;", "type v=vector<vector<u64,7>,0>;type w=v;"},
	} {
		printed(t, parsed(t, c[0]), c[1], api.OK)
		checkAll(t, parsed(t, c[0]))
	}
	printed(t, api.Source{Defs: []api.Def{}}, "", api.OK)
	checkAll(t, api.Source{})
}

// P7.2: every kind of type expression, from its nodes.
func TestPrintKinds(t *testing.T) {
	u8 := api.Expr{Kind: api.KindUint, N: 1}
	for want, l := range map[string][]api.Expr{
		"u8":                    {u8},
		"u16":                   {{Kind: api.KindUint, N: 2}},
		"u32":                   {{Kind: api.KindUint, N: 4}},
		"u64":                   {{Kind: api.KindUint, N: 8}},
		"bool":                  {aBool},
		"varint":                {{Kind: api.KindVarint}},
		"types":                 {{Kind: api.KindName, Name: "types"}},
		"vector<bool,0>":        {{Kind: api.KindVector, Kids: 1}, aBool},
		"vector<u8,2147483647>": {{Kind: api.KindVector, N: 2147483647, Kids: 1}, u8},
		"list<bool,0>":          {{Kind: api.KindList, Kids: 1}, aBool},
		"list<u8,2147483647>":   {{Kind: api.KindList, N: 2147483647, Kids: 1}, u8},
		"option<u8>":            {anOpt, u8},
		"union{0:bool}":         {aUnion, aBool},
		"union{2147483647:option<u8>,3:bool}": {{Kind: api.KindUnion, Kids: 2}, {Kind: api.KindOption, Kids: 1, Tag: 2147483647}, u8,
			{Kind: api.KindBool, Tag: 3}},
		"struct{x:bool}": {aStruct, aField},
		"struct{y:option<u8>,x:bool,x:bool}": {{Kind: api.KindStruct, Kids: 3}, {Kind: api.KindOption, Kids: 1, Label: "y"}, u8,
			aField, aField},
	} {
		printed(t, one(l...), "type a="+want+";", api.OK)
		printed(t, source(def("b_0", l...), def("b", aBool), def("b_0", l...)), "type b_0="+want+";type b=bool;type b_0="+want+";", api.OK)
		checkAll(t, one(l...))
	}
}

// P7.2, P7.4, P7.5: texts in their one form are printed as they are, ordinary ones and those at the limits.
func TestPrintFormsStay(t *testing.T) {
	for _, text := range goodTexts() {
		s := parsed(t, text)
		printed(t, s, text, api.OK)
		checkAll(t, s)
	}
}

// P7.2: numbers as they stand, at their edges.
func TestPrintNumbers(t *testing.T) {
	for _, n := range []int{0, 1, 9, 10, 99, 100, 255, 256, 1048576, 1048577, 2147483646, 2147483647} {
		s := strconv.Itoa(n)
		printed(t, one(api.Expr{Kind: api.KindVector, N: n, Kids: 1}, aBool), "type a=vector<bool,"+s+">;", api.OK)
		printed(t, one(api.Expr{Kind: api.KindList, N: n, Kids: 1}, aBool), "type a=list<bool,"+s+">;", api.OK)
		printed(t, one(aUnion, api.Expr{Kind: api.KindBool, Tag: n}), "type a=union{"+s+":bool};", api.OK)
	}
	for _, n := range []int{math.MinInt, -1, 2147483648, math.MaxInt} {
		printed(t, one(api.Expr{Kind: api.KindVector, N: n, Kids: 1}, aBool), "", api.ErrSource)
		printed(t, one(api.Expr{Kind: api.KindList, N: n, Kids: 1}, aBool), "", api.ErrSource)
		printed(t, one(aUnion, api.Expr{Kind: api.KindBool, Tag: n}), "", api.ErrSource)
	}
}

// chain: n nodes of a kind in one another, and an innermost one.
func chain(n, kind int) []api.Expr {
	l := slices.Repeat([]api.Expr{{Kind: kind, Kids: 1}}, n)
	l = append(l, aBool)
	for i := range l {
		if i > 0 && kind == api.KindStruct {
			l[i].Label = "x"
		}
	}
	return l
}

// P7.2: an expression in MaxNest others, and in more.
func TestPrintNest(t *testing.T) {
	for kind, w := range map[int][2]string{api.KindOption: {"option<", ">"}, api.KindVector: {"vector<", ",0>"}, api.KindList: {"list<", ",0>"}, api.KindUnion: {"union{0:", "}"}, api.KindStruct: {"struct{x:", "}"}} {
		for n := range 17 {
			printed(t, one(chain(n, kind)...), "type a="+strings.Repeat(w[0], n)+"bool"+strings.Repeat(w[1], n)+";", api.OK)
		}
		for _, n := range []int{17, 18, 100, 70000} {
			printed(t, one(chain(n, kind)...), "", api.ErrNest)
			alike(t, one(chain(n, kind)...), one(chain(n, kind)...), true)
			alike(t, one(chain(n, kind)...), one(chain(n-1, kind)...), false)
		}
	}
}

// P7.2: MaxDefs definitions, MaxFields fields, MaxArms arms, and more.
func TestPrintMany(t *testing.T) {
	for _, kind := range []int{api.KindStruct, api.KindUnion} {
		for _, n := range []int{1, 2, 63, 64, 65} {
			x := aField
			if kind == api.KindUnion {
				x.Label, x.Tag = "", 9
			}
			s := one(append([]api.Expr{{Kind: kind, Kids: n}}, slices.Repeat([]api.Expr{x}, n)...)...)
			part := map[int]string{api.KindStruct: "x:bool", api.KindUnion: "9:bool"}[kind]
			front := map[int]string{api.KindStruct: "type a=struct{", api.KindUnion: "type a=union{"}[kind]
			if n == 65 {
				printed(t, s, "", api.ErrMany)
			} else {
				printed(t, s, front+strings.Join(slices.Repeat([]string{part}, n), ",")+"};", api.OK)
			}
			checkAll(t, s)
		}
	}
	for _, n := range []int{255, 256} {
		s := source(slices.Repeat([]api.Def{def("d", aBool)}, n)...)
		printed(t, s, strings.Repeat("type d=bool;", n), api.OK)
		checkAll(t, s)
	}
	for _, n := range []int{257, 1000} {
		printed(t, source(slices.Repeat([]api.Def{def("d", aBool)}, n)...), "", api.ErrMany)
		printed(t, api.Source{Defs: make([]api.Def, n)}, "", api.ErrMany)
	}
}

// P7.2: each of Check's errors, and that no text comes with it.
func TestPrintRefused(t *testing.T) {
	for _, c := range []struct {
		s api.Source
		e api.Errno
	}{
		{source(def("u8", aBool)), api.ErrSource},
		{source(def("", aBool)), api.ErrSource},
		{source(def(strings.Repeat("n", 33), aBool)), api.ErrSource},
		{one(), api.ErrSource},
		{source(def("a", aBool), def("b", anOpt)), api.ErrSource},
		{one(aBool, aBool), api.ErrSource},
		{one(api.Expr{}), api.ErrSource},
		{one(api.Expr{Kind: 10}), api.ErrSource},
		{one(api.Expr{Kind: api.KindUint, N: 3}), api.ErrSource},
		{one(api.Expr{Kind: api.KindUint}), api.ErrSource},
		{one(api.Expr{Kind: api.KindName}), api.ErrSource},
		{one(api.Expr{Kind: api.KindName, Name: "a b"}), api.ErrSource},
		{one(aField), api.ErrSource},
		{one(aStruct, aBool), api.ErrSource},
		{one(aUnion, aField), api.ErrSource},
		{one(api.Expr{Kind: api.KindStruct}), api.ErrSource},
		{one(api.Expr{Kind: api.KindStruct, Kids: math.MinInt}), api.ErrSource},
		{one(api.Expr{Kind: api.KindStruct, Kids: 64}, aField), api.ErrSource},
		{one(api.Expr{Kind: api.KindStruct, Kids: 65}, aField), api.ErrMany},
		{one(api.Expr{Kind: api.KindUnion, Kids: math.MaxInt}, aBool), api.ErrMany},
		{one(chain(17, api.KindList)...), api.ErrNest},
		{source(def("a", aBool), def("b", chain(17, api.KindOption)...), def("", aBool)), api.ErrNest},
	} {
		printed(t, c.s, "", c.e)
		checkAll(t, c.s)
	}
}

// P7.1, P7.2, P7.3, P7.6: each field of a definition or node otherwise: printed or refused, and neither the same nor with the same text, but for the places.
func TestEachField(t *testing.T) {
	for _, text := range append(kinds(), "struct{x:u8,y:union{3:u8,0:list<a,7>}};type b=vector<option<varint>,3>") {
		s := parsed(t, "type k="+text+";")
		first, text := clone(s), model(s)
		taken := 0
		changes(s, func(what string, s api.Source) {
			t.Helper()
			place := what == "At"
			alike(t, first, s, place)
			got, e := checkAll(t, s)
			if e == api.OK && (got == text) != place {
				t.Errorf("P7.6: %s otherwise: %q has the text %q", what, text, got)
			}
			if e == api.OK {
				taken++
			}
		})
		if key(s) != key(first) || taken == 0 {
			t.Fatalf("the change of %q is not taken back, or none is taken", text)
		}
	}
}

// P7.1, P7.2, P7.3, P7.6: definitions and nodes in another order, and in another number.
func TestRearranged(t *testing.T) {
	for _, text := range []string{"", "type a=u8;", "type a=struct{x:u8,y:bool};type b=union{1:a,2:option<a>,3:list<a,4>};type a=bool;", "type a=struct{x:struct{y:u8,z:option<u8>},w:union{1:list<a,3>,2:bool}};", "type a=u8;type b=u8;type c=u8;type d=vector<vector<vector<a,1>,1>,1>;"} {
		s := parsed(t, text)
		rearranged(s, func(other api.Source) {
			t.Helper()
			got, e := checkAll(t, other)
			like := key(other) == key(s)
			alike(t, s, other, like)
			if e == api.OK && (got == text) != like {
				t.Errorf("P7.6: %q has the text %q of another source", text, got)
			}
		})
	}
}

// P7.1 to P7.4, P7.6: all small sources of nodes of all kinds; those with texts alike are the same, and only those.
func TestSmall(t *testing.T) {
	stock := []api.Expr{aBool, {Kind: api.KindUint, N: 8, At: -7}, {Kind: api.KindName, Name: "b"}, anOpt, {Kind: api.KindVector, N: 3, Kids: 1}, {Kind: api.KindList, N: 3, Kids: 1}, aUnion, aStruct, {Kind: api.KindStruct, Kids: 2}, {Kind: api.KindUnion, Kids: 2},
		aField, {Kind: api.KindOption, Kids: 1, Label: "y"}, {Kind: api.KindBool, Tag: 7}, {Kind: api.KindUnion, Kids: 1, Tag: 7}, {}, {Kind: api.KindStruct, Kids: 65}}
	texts := map[string]api.Source{}
	var good []api.Source
	var goOn func(l []api.Expr, left int)
	goOn = func(l []api.Expr, left int) {
		s := one(l...)
		if text, e := checkAll(t, s); e == api.OK {
			if other, ok := texts[text]; ok {
				t.Errorf("P7.6: %s and %s have the text %q", brief(s), brief(other), text)
			}
			texts[text] = s
			good = append(good, s)
		}
		for i := 0; i < len(stock) && left > 0; i++ {
			goOn(append(slices.Clone(l), stock[i]), left-1)
		}
	}
	goOn(nil, 4)
	if len(good) < 100 {
		t.Errorf("P7.2: only %d small sources are taken", len(good))
	}
	for i, a := range good {
		for k, b := range good {
			if show.Same(a, b) != (i == k) {
				t.Errorf("P7.3: Same of %s and %s = %v", brief(a), brief(b), i != k)
			}
		}
	}
}

// P7.3, P7.6: all rows of few small definitions, against each other.
func TestSmallRows(t *testing.T) {
	stock := []api.Def{def("a", aBool), def("b", aBool), def("a", anOpt, aBool), def("ab", aBool), def("a", api.Expr{Kind: api.KindName, Name: "b"}), def("a", api.Expr{Kind: api.KindName, Name: "bb"})}
	rows := [][]api.Def{nil}
	for i := 0; i < 1+6+36; i++ {
		for _, d := range stock {
			rows = append(rows, append(slices.Clone(rows[i]), d))
		}
	}
	for i, a := range rows {
		ta, _ := checkAll(t, source(a...))
		for k, b := range rows {
			tb, _ := show.Print(source(b...))
			if same := show.Same(source(a...), source(b...)); same != (i == k) || same != (ta == tb) {
				t.Errorf("P7.6: %q and %q: Same = %v", ta, tb, same)
			}
		}
	}
}

// P7.3: nil and empty are one; places alone make no difference; what Check refuses is held against each other too.
func TestSameEdges(t *testing.T) {
	empty := api.Source{Defs: []api.Def{}}
	alike(t, api.Source{}, empty, true)
	alike(t, source(api.Def{}), source(api.Def{Type: []api.Expr{}}), true)
	alike(t, api.Source{}, source(api.Def{}), false)
	alike(t, source(api.Def{}), source(api.Def{}, api.Def{}), false)
	alike(t, one(), one(api.Expr{}), false)
	alike(t, one(api.Expr{}), one(api.Expr{}, api.Expr{}), false)
	alike(t, source(def("a", aBool), def("b")), source(def("a"), def("b", aBool)), false)
	alike(t, source(def("a", aBool, anOpt), def("a")), source(def("a", aBool), def("a", anOpt)), false)
	// No field makes up for another one.
	alike(t, one(api.Expr{Name: "x"}), one(api.Expr{Label: "x"}), false)
	alike(t, one(api.Expr{N: 1}), one(api.Expr{Tag: 1}), false)
	alike(t, one(api.Expr{N: 1}), one(api.Expr{Kids: 1}), false)
	alike(t, source(def("ab")), one(api.Expr{Name: "b"}), false)
	alike(t, one(api.Expr{At: 1}), one(api.Expr{At: 2}), true)
	alike(t, one(api.Expr{At: math.MinInt}), one(api.Expr{At: math.MaxInt}), true)
	alike(t, source(api.Def{Name: "a", At: 4, Type: []api.Expr{aBool}}), source(api.Def{Name: "a", At: -9, Type: []api.Expr{aBool}}), true)
}

// P7.3, P7.4: texts that say the same: other blanks and remarks change places alone.
func TestSameTexts(t *testing.T) {
	for _, text := range goodTexts() {
		if len(text) > 3000 {
			continue
		}
		a := parsed(t, text)
		for _, gap := range []string{" ", "\n", "\t\t", "#\n", " # type b = u8;\n"} {
			b := parsed(t, joined(gap, text))
			alike(t, a, b, true)
			printed(t, b, text, api.OK)
		}
	}
}

// joined: a text's tokens with a gap ahead of each, and one behind the last.
func joined(gap, text string) string {
	list, _ := tokens.Cut(text)
	out := ""
	for _, x := range list {
		out += gap + text[x.At:x.End]
	}
	return out + gap
}

// P7.5: what is printed is no longer than any text that was parsed, and nothing can be left out of it.
func TestShortest(t *testing.T) {
	for _, text := range goodTexts() {
		for _, longer := range []string{text, text + " ", "#\n" + text, strings.ReplaceAll(text, ",", " , "), text + strings.Repeat(" ", 65536-len(text))} {
			s := parsed(t, longer)
			got, e := show.Print(s)
			if e != api.OK || len(got) > len(longer) || got != text {
				t.Errorf("P7.5: %.200q of %d bytes is printed as %.200q of %d bytes, %d", longer, len(longer), got, len(got), e)
			}
		}
		if len(text) > 1000 {
			continue
		}
		first := parsed(t, text)
		for i := range text {
			less, f := syntax.Parse(text[:i] + text[i+1:])
			if f.Err == api.OK && show.Same(first, less) {
				t.Errorf("P7.5: byte %d of %.200q is not needed", i, text)
			}
		}
	}
}

// P7.5: each text that is parsed, of all rows of a few tokens that can go on.
func TestShortestSmall(t *testing.T) {
	stock := append(words(), "a", "zz_9", "0", "2147483647", "=", ";", "<", ">", ",", ":", "{", "}")
	fronts, whole := []string{""}, 0
	for i := 0; i < len(fronts) && i < 6000; i++ {
		for _, token := range stock {
			text := fronts[i] + token + " "
			s, f := syntax.Parse(text)
			if f.Err != api.OK && f.At < len(text) {
				continue
			}
			fronts = append(fronts, text)
			if f.Err != api.OK {
				continue
			}
			whole++
			got, e := checkAll(t, s)
			if e != api.OK || len(got) > len(text) {
				t.Errorf("P7.5: %q is printed as %q, %d", text, got, e)
			}
		}
	}
	if whole < 100 {
		t.Errorf("P7.5: only %d texts", whole)
	}
}

// ofLength: a source with the type as the last one, whose text has just so many bytes: names of up to 32 bytes ahead of it.
func ofLength(t *testing.T, n int, last api.Def) api.Source {
	t.Helper()
	fields := []api.Expr{{Kind: api.KindStruct, Kids: 64}}
	for range 64 {
		fields = append(fields, api.Expr{Kind: api.KindName, Name: strings.Repeat("n", 32), Label: strings.Repeat("l", 32)})
	}
	big := def("b", fields...)
	step := len(model(source(big)))
	var s api.Source
	for left := n - len(model(source(last))); left > 0; {
		d := big
		if left < 2*step {
			// The rest in small pieces: type a=n; has 9 bytes with a name of one.
			d = def("s", api.Expr{Kind: api.KindName, Name: strings.Repeat("n", min(32, left-8))})
			if left > 40 && left < 49 {
				d.Type[0].Name = strings.Repeat("n", 20)
			}
		}
		s.Defs = append(s.Defs, d)
		left -= len(model(source(d)))
	}
	s.Defs = append(s.Defs, last)
	if len(model(s)) != n || len(s.Defs) > 255 {
		t.Fatalf("a source of %d definitions and %d bytes, not %d", len(s.Defs), len(model(s)), n)
	}
	return s
}

// P7.2: a text of MaxText bytes, and of one more, whatever stands at the bound, and whatever comes behind it.
func TestPrintLong(t *testing.T) {
	for _, k := range append(kinds(), wide("struct", 64), wide("union", 64)) {
		last := parsed(t, "type k="+k+";").Defs[0]
		for _, n := range []int{65535, 65536, 65537, 65538, 65540, 65546, 65570, 66000} {
			s := ofLength(t, n, last)
			text, e := checkAll(t, s)
			if e != map[bool]api.Errno{true: api.OK, false: api.ErrLong}[n <= 65536] || e == api.OK && len(text) != n {
				t.Errorf("P7.2: a text of %d bytes that ends with %.100q: %d bytes, %d", n, k, len(text), e)
			}
			if n == 65536 {
				s.Defs = append(s.Defs, def("e", aBool))
				printed(t, s, "", api.ErrLong)
				s.Defs[0].Name = "list"
				printed(t, s, "", api.ErrSource)
			}
		}
	}
}

// P7.2: the bound at every byte of a type's form: nothing of what is too much may be left out.
func TestPrintLongEverywhere(t *testing.T) {
	last := parsed(t, "type last=struct{xyz:union{255:vector<option<list<name,12>>,345>},b:u64,c:varint,d:bool};").Defs[0]
	size := len(model(source(last)))
	for over := range size + 2 {
		s := ofLength(t, 65536+over, last)
		_, e := checkAll(t, s)
		if (e == api.OK) != (over == 0) {
			t.Errorf("P7.2: a text of %d bytes: %d", 65536+over, e)
		}
	}
}

// P7.1, P7.2: sources whose texts would be far too long.
func TestPrintVeryLong(t *testing.T) {
	l := []api.Expr{{Kind: api.KindStruct, Kids: 64}}
	for range 64 {
		l = append(l, api.Expr{Kind: api.KindUnion, Kids: 64, Label: strings.Repeat("l", 32)})
		for range 64 {
			l = append(l, api.Expr{Kind: api.KindName, Name: strings.Repeat("n", 32), Tag: math.MaxInt32})
		}
	}
	s := source(slices.Repeat([]api.Def{def(strings.Repeat("d", 32), l...)}, 256)...)
	printed(t, s, "", api.ErrLong)
	alike(t, s, clone(s), true)
	other := clone(s)
	other.Defs[255].Type[len(l)-1].Tag--
	alike(t, s, other, false)
	other.Defs[255].Type[len(l)-1].Tag = -1
	printed(t, other, "", api.ErrSource)
}

// roomy: a source with spare room in all its lists, and something in it.
func roomy(s api.Source) api.Source {
	s = clone(s)
	n := len(s.Defs)
	s.Defs = append(s.Defs, def("spare", anOpt), def("", aBool))[:n]
	for i := range s.Defs {
		l := s.Defs[i].Type
		s.Defs[i].At = 7 * i
		s.Defs[i].Type = append(l, anOpt, aField, api.Expr{At: 9})[:len(l)]
		for k := range l {
			s.Defs[i].Type[k].At = []int{-1, math.MaxInt, math.MinInt, 0}[k%4]
		}
	}
	return s
}

// all: all that a source's lists hold, places and spare room too.
func all(s api.Source) (defs []api.Def, nodes []api.Expr) {
	for _, d := range s.Defs[:cap(s.Defs)] {
		nodes = append(nodes, d.Type[:cap(d.Type)]...)
		defs = append(defs, api.Def{Name: d.Name, At: d.At})
	}
	return defs, nodes
}

// P7.1: what is handed in is not changed, spare room too.
func TestChangesNothing(t *testing.T) {
	sameDef := func(a, b api.Def) bool { return a.Name == b.Name && a.At == b.At }
	for _, text := range append(goodTexts(), "refused") {
		s := one(anOpt)
		if text != "refused" {
			s = parsed(t, text)
		}
		a, b := roomy(s), roomy(s)
		defs, nodes := all(a)
		show.Print(a)
		show.Same(a, b)
		show.Same(b, a)
		show.Same(a, api.Source{})
		for _, x := range []api.Source{a, b} {
			d, n := all(x)
			if !slices.EqualFunc(defs, d, sameDef) || !slices.Equal(nodes, n) {
				t.Errorf("P7.1: %.100q: what is handed in is changed", text)
			}
		}
	}
}

// P7.1: what is handed in is not kept: the text stays, when the names' bytes are written over.
func TestKeepsNothing(t *testing.T) {
	name := []byte("abc")
	held := unsafe.String(&name[0], len(name))
	s := source(def(held, api.Expr{Kind: api.KindStruct, Kids: 1}, api.Expr{Kind: api.KindName, Name: held, Label: held}), def("x", api.Expr{Kind: api.KindName, Name: held}))
	text, e := show.Print(s)
	copy(name, "xyz")
	if want := "type abc=struct{abc:abc};type x=abc;"; text != want || e != api.OK {
		t.Errorf("P7.1: the text is %q, %d, when the names are written over, not %q", text, e, want)
	}
	printed(t, s, "type xyz=struct{xyz:xyz};type x=xyz;", api.OK)
	copy(name, "9yz")
	printed(t, s, "", api.ErrSource)
}

// P7.1: each call looks at what it is handed now, and an error leaves nothing behind.
func TestLooksAgain(t *testing.T) {
	s, other := one(anOpt, aBool), one(anOpt, aBool)
	printed(t, s, "type a=option<bool>;", api.OK)
	alike(t, s, other, true)
	s.Defs[0].Type[1].N = 1
	printed(t, s, "", api.ErrSource)
	alike(t, s, other, false)
	s.Defs[0].Type[1].N = 0
	printed(t, s, "type a=option<bool>;", api.OK)
	alike(t, s, other, true)
	s.Defs[0].Name = "b"
	printed(t, s, "type b=option<bool>;", api.OK)
	alike(t, s, other, false)
	printed(t, ofLength(t, 65537, def("k", aBool)), "", api.ErrLong)
	printed(t, s, "type b=option<bool>;", api.OK)
}
