package syntax_test

import (
	"math"
	"regexp"
	"slices"
	"strconv"
	"strings"
	"testing"

	"mortise/api"
	"mortise/syntax"
)

var nameForm = regexp.MustCompile(`\A[a-z][a-z0-9_]{0,31}\z`)

func isName(s string) bool { return nameForm.MatchString(s) && !slices.Contains(words(), s) }

func isNumber(n int) bool { return n >= 0 && n <= 2147483647 }

// asTable: are Kind, N, Kids and Name what the chapter's table has?
func asTable(x api.Expr) bool {
	if x.Kind == api.KindName {
		return x.N == 0 && x.Kids == 0 && isName(x.Name)
	}
	if x.Name != "" {
		return false
	}
	switch x.Kind {
	case api.KindUint:
		return x.Kids == 0 && slices.Contains([]int{1, 2, 4, 8}, x.N)
	case api.KindBool, api.KindVarint:
		return x.Kids == 0 && x.N == 0
	case api.KindVector, api.KindList:
		return x.Kids == 1 && isNumber(x.N)
	case api.KindOption:
		return x.Kids == 1 && x.N == 0
	case api.KindUnion, api.KindStruct:
		return x.Kids >= 1 && x.N == 0
	}
	return false
}

// asPart: are Label and Tag right for a kid of a node of this kind?
func asPart(x api.Expr, of int) bool {
	switch of {
	case api.KindStruct:
		return isName(x.Label) && x.Tag == 0
	case api.KindUnion:
		return x.Label == "" && isNumber(x.Tag)
	}
	return x.Label == "" && x.Tag == 0
}

// walk: the expression that begins at a node, by recursion: the node behind it, or the one at fault.
func walk(l []api.Expr, node, of, depth int) (int, api.Errno) {
	if node >= len(l) {
		return node, api.ErrSource
	}
	x := l[node]
	switch {
	case depth > 16:
		return node, api.ErrNest
	case (x.Kind == api.KindStruct || x.Kind == api.KindUnion) && x.Kids > 64:
		return node, api.ErrMany
	case !asTable(x) || !asPart(x, of):
		return node, api.ErrSource
	}
	next := node + 1
	for range x.Kids {
		var e api.Errno
		if next, e = walk(l, next, x.Kind, depth+1); e != api.OK {
			return next, e
		}
	}
	return next, api.OK
}

// checkByWords: Check's answer by the words of P6.3.
func checkByWords(s api.Source) (int, int, api.Errno) {
	if len(s.Defs) > 256 {
		return 256, 0, api.ErrMany
	}
	for i, d := range s.Defs {
		if !isName(d.Name) {
			return i, 0, api.ErrSource
		}
		n, e := walk(d.Type, 0, 0, 0)
		if e == api.OK && n < len(d.Type) {
			e = api.ErrSource
		}
		if e != api.OK {
			return i, n, e
		}
	}
	return 0, 0, api.OK
}

// written: a text of a source, as far as it is one; what can't be written is left out or a "?".
func written(s api.Source) string {
	out := ""
	for _, d := range s.Defs {
		text, _ := writtenType(d.Type, 0)
		out += "type " + d.Name + "=" + text + ";\n"
	}
	return out
}

func writtenType(l []api.Expr, node int) (string, int) {
	if node >= len(l) || node > 10000 {
		return "?", node
	}
	x := l[node]
	first := firstOf(x)
	if first == "" || x.Kids > 64 {
		return "?", node
	}
	next := node + 1
	var kids []string
	for range max(x.Kids, 0) {
		at, head, text := next, "", ""
		text, next = writtenType(l, next)
		if at < len(l) && x.Kind == api.KindStruct {
			head = l[at].Label + ":"
		}
		if at < len(l) && x.Kind == api.KindUnion {
			head = strconv.Itoa(l[at].Tag) + ":"
		}
		kids = append(kids, head+text)
	}
	inner := strings.Join(kids, ",")
	switch x.Kind {
	case api.KindVector, api.KindList:
		return first + "<" + inner + "," + strconv.Itoa(x.N) + ">", next
	case api.KindOption:
		return first + "<" + inner + ">", next
	case api.KindUnion, api.KindStruct:
		return first + "{" + inner + "}", next
	}
	return first + inner, next
}

// asked tells where Check's answer is another one than said.
func asked(t *testing.T, s api.Source, def, node int, e api.Errno) {
	t.Helper()
	if d, n, g := syntax.Check(s); d != def || n != node || g != e {
		t.Errorf("P6.3: Check of %s = %d, %d, %d, want %d, %d, %d", brief(s), d, n, g, def, node, e)
	}
}

// askedAll holds Check of a source against the chapter's words, and against Parse: just what is taken can be parsed.
func askedAll(t *testing.T, s api.Source) api.Errno {
	t.Helper()
	def, node, e := checkByWords(s)
	asked(t, s, def, node, e)
	text := written(s)
	parsed, f := syntax.Parse(text)
	if may := f.Err == api.OK && same(clone(parsed, false), clone(s, false)); may != (e == api.OK) && len(text) <= api.MaxText {
		t.Errorf("P6.3: Check of %s = %d, but %.200q is parsed to %s, %v", brief(s), e, text, brief(parsed), f)
	}
	return e
}

func one(l ...api.Expr) api.Source { return source(def("a", 0, l...)) }

var (
	aBool   = api.Expr{Kind: api.KindBool}
	anOpt   = api.Expr{Kind: api.KindOption, Kids: 1}
	aStruct = api.Expr{Kind: api.KindStruct, Kids: 1}
	aUnion  = api.Expr{Kind: api.KindUnion, Kids: 1}
	aField  = api.Expr{Kind: api.KindBool, Label: "x"}
)

// P6.3: the chapter's worked examples.
func TestCheckExamples(t *testing.T) {
	asked(t, api.Source{}, 0, 0, api.OK)
	asked(t, one(aBool), 0, 0, api.OK)
	asked(t, source(def("u8", 0, aBool)), 0, 0, api.ErrSource)
	asked(t, one(), 0, 0, api.ErrSource)
	asked(t, source(def("a", 0, aBool), def("b", 0, anOpt)), 1, 1, api.ErrSource)
	asked(t, one(aBool, aBool), 0, 1, api.ErrSource)
	asked(t, one(api.Expr{Kind: api.KindUint, N: 3}), 0, 0, api.ErrSource)
	asked(t, one(api.Expr{Kind: api.KindList, N: -1, Kids: 1}, aBool), 0, 0, api.ErrSource)
	asked(t, one(aField), 0, 0, api.ErrSource)
	asked(t, one(api.Expr{Kind: api.KindStruct}), 0, 0, api.ErrSource)
}

// strangeNumbers: at all edges, negative and very great ones.
func strangeNumbers() []int {
	return []int{math.MinInt, math.MinInt + 1, -1 << 32, -1 << 31, -64, -8, -2, -1, 0, 1, 2, 3, 4, 5, 6, 7, 8, 9, 10, 11, 16, 63, 64, 65, 66, 255, 256, 257, 1<<31 - 2, 1<<31 - 1, 1 << 31, 1<<32 + 1, 1<<32 + 8, 1<<62 - 1, 1 << 62, math.MaxInt - 1, math.MaxInt}
}

// strangeTexts: names, and what is none.
func strangeTexts() []string {
	return append(words(), "", "a", "z9_", strings.Repeat("n", 32), strings.Repeat("n", 33), "A", "_", "_a", "9", "9a", "a b", " a", "a ", "a-b", "a\x00", "\x00", "é", "aé", "a\n", "lists", ";", "a:u8,b")
}

// contexts: good sources in which node number 'at' is of every kind, and a kid of every kind.
func contexts() (sources []api.Source, at []int) {
	for _, front := range []string{"", "option<", "list<", "vector<u8,1>;type b=list<", "union{7:", "union{0:u8,1:", "struct{x:", "struct{x:u8,y:"} {
		for text := range kinds() {
			back := map[bool]string{true: ",9>", false: ""}[strings.HasSuffix(front, "list<")]
			back += map[bool]string{true: ">", false: ""}[front == "option<"]
			back += map[bool]string{true: ",8:u8}", false: ""}[strings.HasPrefix(front, "union")]
			back += map[bool]string{true: ",z:u8}", false: ""}[strings.HasPrefix(front, "struct")]
			s, _ := syntax.Parse("type c=" + front + text + back + ";")
			node := strings.Count(front, "<") + strings.Count(front, "{") + strings.Count(front, "u8")
			if len(s.Defs) == 2 {
				node = 1
			}
			sources, at = append(sources, s), append(at, node)
		}
	}
	return sources, at
}

// P6.3: each field of a node set otherwise, for every kind of node and of the one that it lies in.
func TestCheckFields(t *testing.T) {
	sources, places := contexts()
	for i, s := range sources {
		if e := askedAll(t, s); e != api.OK || len(s.Defs) == 0 {
			t.Fatalf("P6.3: Check of the good source %s = %d", brief(s), e)
		}
		x := &s.Defs[len(s.Defs)-1].Type[places[i]]
		held := *x
		for _, n := range strangeNumbers() {
			for _, field := range []*int{&x.Kind, &x.N, &x.Kids, &x.Tag, &x.At} {
				*field = n
				e := askedAll(t, s)
				if field == &x.At && e != api.OK {
					t.Errorf("P6.3: At is looked at: %s is %d", brief(s), e)
				}
				*x = held
			}
		}
		for _, text := range strangeTexts() {
			for _, field := range []*string{&x.Name, &x.Label} {
				*field = text
				askedAll(t, s)
				*x = held
			}
		}
	}
}

// P6.3: what each field may be, said for each kind in short.
func TestCheckFieldsByHand(t *testing.T) {
	for _, n := range strangeNumbers() {
		good := func(ok bool, l ...api.Expr) {
			t.Helper()
			asked(t, one(l...), 0, 0, map[bool]api.Errno{true: api.OK, false: api.ErrSource}[ok])
		}
		good(n == 1 || n == 2 || n == 4 || n == 8, api.Expr{Kind: api.KindUint, N: n})
		good(n == 0, api.Expr{Kind: api.KindBool, N: n})
		good(n == 0, api.Expr{Kind: api.KindVarint, N: n})
		good(n == 0, api.Expr{Kind: api.KindName, Name: "a", N: n})
		good(n >= 0 && n <= 1<<31-1, api.Expr{Kind: api.KindVector, N: n, Kids: 1}, aBool)
		good(n >= 0 && n <= 1<<31-1, api.Expr{Kind: api.KindList, N: n, Kids: 1}, aBool)
		good(n == 0, api.Expr{Kind: api.KindOption, N: n, Kids: 1}, aBool)
		good(n == 0, api.Expr{Kind: api.KindUnion, N: n, Kids: 1}, aBool)
		good(n == 0, api.Expr{Kind: api.KindStruct, N: n, Kids: 1}, aField)
		good(n == 0, api.Expr{Kind: api.KindBool, Tag: n})
		good(n == api.KindBool || n == api.KindVarint, api.Expr{Kind: n})
		if n != 0 {
			for _, kind := range []int{api.KindBool, api.KindVarint, api.KindUint, api.KindName} {
				good(false, api.Expr{Kind: kind, N: map[int]int{api.KindUint: 1}[kind], Name: map[int]string{api.KindName: "a"}[kind], Kids: n}, aBool)
			}
		}
		if n != 1 {
			good(false, api.Expr{Kind: api.KindVector, Kids: n}, aBool, aBool)
			good(false, api.Expr{Kind: api.KindList, Kids: n}, aBool, aBool)
			good(false, api.Expr{Kind: api.KindOption, Kids: n}, aBool, aBool)
		}
		tag := map[bool]api.Errno{true: api.OK, false: api.ErrSource}[n >= 0 && n <= 1<<31-1]
		asked(t, one(aUnion, api.Expr{Kind: api.KindBool, Tag: n}), 0, map[bool]int{true: 0, false: 1}[tag == api.OK], tag)
		if n != 0 {
			asked(t, one(aStruct, api.Expr{Kind: api.KindBool, Label: "x", Tag: n}), 0, 1, api.ErrSource)
			asked(t, one(anOpt, api.Expr{Kind: api.KindBool, Tag: n}), 0, 1, api.ErrSource)
		}
	}
	for _, s := range strangeTexts() {
		ok := isName(s)
		node, e := 1, api.ErrSource
		if ok {
			node, e = 0, api.OK
		}
		asked(t, source(def(s, 0, aBool)), 0, 0, e)
		asked(t, one(api.Expr{Kind: api.KindName, Name: s}), 0, 0, e)
		asked(t, one(aStruct, api.Expr{Kind: api.KindBool, Label: s}), 0, node, e)
		if s != "" {
			asked(t, one(api.Expr{Kind: api.KindBool, Name: s}), 0, 0, api.ErrSource)
			asked(t, one(aUnion, api.Expr{Kind: api.KindBool, Label: s}), 0, 1, api.ErrSource)
			asked(t, one(anOpt, api.Expr{Kind: api.KindBool, Label: s}), 0, 1, api.ErrSource)
		}
	}
}

// P6.3: all small sources of nodes of all kinds.
func TestCheckSmall(t *testing.T) {
	stock := []api.Expr{aBool, {Kind: api.KindUint, N: 8, At: -7}, {Kind: api.KindName, Name: "b"}, anOpt, {Kind: api.KindVector, N: 3, Kids: 1}, aUnion, aStruct, {Kind: api.KindStruct, Kids: 2}, {Kind: api.KindUnion, Kids: 2},
		aField, {Kind: api.KindOption, Kids: 1, Label: "y"}, {Kind: api.KindBool, Tag: 7}, {Kind: api.KindUnion, Kids: 1, Tag: 7}, {}, {Kind: api.KindStruct, Kids: 65}}
	taken := 0
	var goOn func(l []api.Expr, left int)
	goOn = func(l []api.Expr, left int) {
		if askedAll(t, one(l...)) == api.OK {
			taken++
		}
		for i := 0; i < len(stock) && left > 0; i++ {
			goOn(append(slices.Clone(l), stock[i]), left-1)
		}
	}
	goOn(nil, 4)
	if taken < 100 {
		t.Errorf("P6.3: only %d small sources are taken", taken)
	}
}

// P6.3: a node too many, one missing, one doubled, one put in, at every place.
func TestCheckNodes(t *testing.T) {
	for _, text := range []string{whole(), "type a=struct{x:struct{y:u8,z:option<u8>},w:union{1:list<a,3>,2:bool}};"} {
		s, f := syntax.Parse(text)
		if f.Err != api.OK {
			t.Fatalf("P6.2: %q: %v", text, f)
		}
		for i := range s.Defs {
			l := s.Defs[i].Type
			for k := range len(l) + 1 {
				changed := func(l ...[]api.Expr) {
					other := clone(s, true)
					other.Defs[i].Type = slices.Concat(l...)
					askedAll(t, other)
				}
				changed(l[:k])
				for _, x := range []api.Expr{aBool, anOpt, aField, {Kind: api.KindBool, Tag: 1}, {}} {
					changed(l[:k], []api.Expr{x}, l[k:])
				}
				if k < len(l) {
					changed(l[:k], l[k+1:])
					changed(l[:k+1], l[k:])
				}
			}
			other := clone(s, true)
			other.Defs[i].Type = l[:len(l)-1]
			asked(t, other, i, len(l)-1, api.ErrSource)
			other.Defs[i].Type = append(slices.Clone(l), api.Expr{Kind: api.KindStruct, Kids: 65})
			asked(t, other, i, len(l), api.ErrSource)
		}
	}
	// A count of kids that leads past the list, by much.
	asked(t, one(api.Expr{Kind: api.KindStruct, Kids: 64}, aField), 0, 2, api.ErrSource)
	asked(t, one(api.Expr{Kind: api.KindStruct, Kids: 65}, aField), 0, 0, api.ErrMany)
	asked(t, one(api.Expr{Kind: api.KindUnion, Kids: 64}), 0, 1, api.ErrSource)
	asked(t, one(api.Expr{Kind: api.KindUnion, Kids: 65}), 0, 0, api.ErrMany)
	asked(t, one(api.Expr{Kind: api.KindUnion, Kids: math.MaxInt}, aBool), 0, 0, api.ErrMany)
	asked(t, one(api.Expr{Kind: api.KindUnion, Kids: math.MinInt}, aBool), 0, 0, api.ErrSource)
	asked(t, one(api.Expr{Kind: api.KindOption, Kids: 65}, aBool), 0, 0, api.ErrSource)
	asked(t, one(api.Expr{Kind: api.KindBool, Kids: 65}, aBool), 0, 0, api.ErrSource)
}

// nestedNodes: n nodes in one another, of the kinds in their order, and a last one as the innermost asks.
func nestedNodes(n int, kinds ...int) []api.Expr {
	var l []api.Expr
	of := 0
	for i := range n + 1 {
		x := api.Expr{Kind: kinds[i%len(kinds)], Kids: 1}
		if i == n {
			x = api.Expr{Kind: api.KindVarint}
		}
		if of == api.KindStruct {
			x.Label = "x"
		}
		if of == api.KindUnion {
			x.Tag = 5
		}
		l, of = append(l, x), x.Kind
	}
	return l
}

// P6.3: nested in MaxNest others, and in one more; which fault goes ahead.
func TestCheckNest(t *testing.T) {
	v, l, o, u, s := api.KindVector, api.KindList, api.KindOption, api.KindUnion, api.KindStruct
	for _, kinds := range [][]int{{v}, {l}, {o}, {u}, {s}, {v, l, o, u, s}, {s, u}, {o, s}} {
		askedAll(t, one(nestedNodes(16, kinds...)...))
		asked(t, one(nestedNodes(16, kinds...)...), 0, 0, api.OK)
		asked(t, one(nestedNodes(17, kinds...)...), 0, 17, api.ErrNest)
		asked(t, one(nestedNodes(200, kinds...)...), 0, 17, api.ErrNest)
		asked(t, one(nestedNodes(70000, kinds...)...), 0, 17, api.ErrNest)
		asked(t, one(nestedNodes(17, kinds...)[:17]...), 0, 17, api.ErrSource)
		for _, x := range []api.Expr{{Kind: 99}, {Kind: s, Kids: 65}, {Kind: u, Kids: math.MaxInt}, {Kind: o, Kids: -1, Label: "?", Tag: -1}} {
			deep := nestedNodes(17, kinds...)
			deep[17] = x
			asked(t, one(deep...), 0, 17, api.ErrNest)
		}
		deep := nestedNodes(17, kinds...)
		deep[9].N = -1
		asked(t, one(deep...), 0, 9, api.ErrSource)
		asked(t, source(def("b", 0, nestedNodes(16, kinds...)...), def("c", 0, nestedNodes(17, kinds...)...)), 1, 17, api.ErrNest)
	}
	// Only the nodes that one lies in count: not those ahead of it.
	wide := api.Expr{Kind: s, Kids: 2}
	inner := nestedNodes(15, o)
	inner[0].Label = "x"
	asked(t, one(slices.Concat([]api.Expr{wide}, inner, inner)...), 0, 0, api.OK)
	deeper := nestedNodes(16, o)
	deeper[0].Label = "x"
	asked(t, one(slices.Concat([]api.Expr{wide}, inner, deeper)...), 0, 1+16+16, api.ErrNest)
	asked(t, one(slices.Concat([]api.Expr{wide}, inner, deeper[:16])...), 0, 1+16+16, api.ErrSource)
	asked(t, one(slices.Concat([]api.Expr{wide}, inner, inner, inner)...), 0, 1+16+16, api.ErrSource)
}

// P6.3: which of a node's faults goes ahead.
func TestCheckOrder(t *testing.T) {
	for _, kind := range []int{api.KindStruct, api.KindUnion} {
		many := api.Expr{Kind: kind, N: -1, Name: "?", Label: "?", Tag: -1, Kids: 65}
		asked(t, one(many), 0, 0, api.ErrMany)
		asked(t, one(anOpt, many), 0, 1, api.ErrMany)
		asked(t, one(aBool, many), 0, 1, api.ErrSource)
		many.Kids = 64
		asked(t, one(many), 0, 0, api.ErrSource)
		asked(t, source(def("list", 0, many)), 0, 0, api.ErrSource)
	}
	asked(t, source(def("list", 0, api.Expr{Kind: api.KindStruct, Kids: 65})), 0, 0, api.ErrSource)
	asked(t, source(def("a", 0, aBool), def("", 0, aBool, aBool)), 1, 0, api.ErrSource)
	asked(t, source(def("a", 0, aBool, aBool), def("", 0)), 0, 1, api.ErrSource)
	asked(t, source(def("a", 0, anOpt), def("", 0)), 0, 1, api.ErrSource)
	asked(t, source(def("a", 0, aBool), def("a", 0, aBool), def("a", 0)), 2, 0, api.ErrSource)
}

// parts: a struct or union of n parts.
func parts(kind, n int) []api.Expr {
	l := []api.Expr{{Kind: kind, Kids: n}}
	for i := range n {
		x := api.Expr{Kind: api.KindBool}
		if kind == api.KindStruct {
			x.Label = "p" + strconv.Itoa(i)
		} else {
			x.Tag = i
		}
		l = append(l, x)
	}
	return l
}

// P6.3: MaxFields fields, MaxArms arms, MaxDefs definitions, and more.
func TestCheckMany(t *testing.T) {
	for _, kind := range []int{api.KindStruct, api.KindUnion} {
		for _, n := range []int{1, 2, 63, 64} {
			asked(t, one(parts(kind, n)...), 0, 0, api.OK)
			askedAll(t, one(parts(kind, n)...))
			asked(t, one(parts(kind, n)[:n]...), 0, n, api.ErrSource)
		}
		asked(t, one(parts(kind, 65)...), 0, 0, api.ErrMany)
	}
	for _, n := range []int{1, 255, 256} {
		s := source(slices.Repeat([]api.Def{def("a", 0, aBool)}, n)...)
		asked(t, s, 0, 0, api.OK)
		askedAll(t, s)
		s.Defs[n-1] = def("a", 0, anOpt)
		asked(t, s, n-1, 1, api.ErrSource)
	}
	for _, d := range []api.Def{def("a", 0, aBool), {}, def("list", 0, anOpt), def("a", 0, api.Expr{Kind: api.KindStruct, Kids: 65})} {
		for _, n := range []int{257, 258, 1000} {
			asked(t, source(slices.Repeat([]api.Def{d}, n)...), 256, 0, api.ErrMany)
		}
	}
	s, _ := syntax.Parse(great())
	askedAll(t, s)
}

// P6.1, P6.3: what Check is handed is not changed, spare room too, and places are not looked at.
func TestCheckChangesNothing(t *testing.T) {
	for _, text := range []string{whole(), great(), wide("union", 64), ""} {
		s, _ := syntax.Parse(text)
		roomy := clone(s, true)
		roomy.Defs = append(roomy.Defs, def("spare", 7, anOpt), def("", 8))[:len(s.Defs)]
		for i := range roomy.Defs {
			l := roomy.Defs[i].Type
			for k := range l {
				l[k].At = []int{-1, math.MaxInt, math.MinInt, 0}[k%4]
			}
			roomy.Defs[i].At = math.MinInt
			roomy.Defs[i].Type = append(l, anOpt, aField, api.Expr{})[:len(l)]
		}
		spare := roomy.Defs[:cap(roomy.Defs)]
		held := make([]api.Def, len(spare))
		for i, d := range spare {
			d.Type = slices.Clone(d.Type[:cap(d.Type)])
			held[i] = d
		}
		asked(t, roomy, 0, 0, api.OK)
		for i, d := range spare {
			d.Type = d.Type[:cap(d.Type)]
			if !sameDef(d, held[i]) {
				t.Errorf("P6.1: Check of %.100q changes definition %d", text, i)
			}
		}
	}
}

// P6.3: each call looks at what it is handed now.
func TestCheckLooksAgain(t *testing.T) {
	s := one(anOpt, aBool)
	asked(t, s, 0, 0, api.OK)
	s.Defs[0].Type[1].N = 1
	asked(t, s, 0, 1, api.ErrSource)
	s.Defs[0].Type[1].N = 0
	asked(t, s, 0, 0, api.OK)
	s.Defs[0].Name = "u8"
	asked(t, s, 0, 0, api.ErrSource)
}
