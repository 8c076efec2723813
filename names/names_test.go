package names_test

import (
	"math"
	"slices"
	"strconv"
	"strings"
	"testing"

	"mortise/api"
	"mortise/names"
)

var (
	aBool  = api.Expr{Kind: api.KindBool}
	anOpt  = api.Expr{Kind: api.KindOption, Kids: 1}
	aField = api.Expr{Kind: api.KindBool, Label: "x"}
)

// P8.2, P8.4, P8.5: the chapter's examples, and DOC.md's.
func TestExamples(t *testing.T) {
	for _, c := range []struct {
		text          string
		e             api.Errno
		at            int
		order, depths []int
	}{
		{text: ""},
		{text: "type a = u8;", order: []int{0}, depths: []int{1}},
		{text: "type a = b; type b = u8;", order: []int{1, 0}, depths: []int{1, 1}},
		{text: "type a = c; type b = list<a, 3>; type c = struct {x: u8, y: option<bool>};", order: []int{2, 0, 1}, depths: []int{3, 4, 3}},
		{text: "type a = b;", e: api.ErrUnknown, at: 9},
		{text: "type a = u8; type a = b;", e: api.ErrTwice, at: 18},
		{text: "type a = struct {x: u8, x: q};", e: api.ErrTwice, at: 24},
		{text: "type a = struct {x: struct {x: u8}, y: u8};", order: []int{0}, depths: []int{3}},
		{text: "type a = union {1: u8, 0: u8, 1: u8};", e: api.ErrTwice, at: 30},
		{text: "type a = a; type b = q;", e: api.ErrUnknown, at: 21},
		{text: "type a = a;", e: api.ErrRing, at: 5},
		{text: "type c = a; type a = list<b, 1>; type b = option<a>;", e: api.ErrRing, at: 17},
		{text: "type a = u8; type b = list<a, 0>;", order: []int{0, 1}, depths: []int{1, 2}},
		{text: "type a=b;", e: api.ErrUnknown, at: 7},
		{text: "type a=list<a,3>;", e: api.ErrRing, at: 5},
		{text: "type a=vector<u8,0>;", order: []int{0}, depths: []int{2}},
		{text: "type a=struct{x:u8,x:u8};", e: api.ErrTwice, at: 19},
	} {
		s := parsed(t, c.text)
		told(t, s, c.order, c.depths, api.Fault{Err: c.e, At: c.at})
		checkAll(t, s)
	}
	s := parsed(t, strings.Join(row(65, "u8", func(i int, ahead string) string { return "option<" + ahead + ">" }), ""))
	refused(t, s, api.ErrDeep, s.Defs[64].At)
	refused(t, source(api.Def{Name: "a", At: 5}), api.ErrSource, 0)
}

// P8.3: the chapter's examples.
func TestFindExamples(t *testing.T) {
	s := parsed(t, "type a = c; type b = list<a, 3>; type c = struct {x: u8, y: option<bool>};")
	found(t, s, "b", 1, api.OK)
	found(t, s, "q", 0, api.ErrUnknown)
	found(t, source(def("a")), "a", 0, api.OK)
}

// P8.2, P8.4, P8.5: sources in which all is well, and each kind of fault, with places that fall.
func TestTexts(t *testing.T) {
	for _, text := range goodTexts() {
		if f := checkAll(t, parsed(t, text)); f.Err != api.OK {
			t.Errorf("P8.2: %.200q: %v", text, f)
		}
		checkAll(t, placed(parsed(t, text)))
	}
	for _, text := range badTexts() {
		if f := checkAll(t, parsed(t, text)); f.Err == api.OK {
			t.Errorf("P8.2: %.200q: no fault", text)
		}
		checkAll(t, placed(parsed(t, text)))
	}
}

// P8.2 to P8.6: all sources of up to three definitions of few names and types; Order is the least of all lists in which each stands behind those that it uses.
func TestSmall(t *testing.T) {
	var stock []api.Def
	for _, name := range []string{"a", "b", "c"} {
		for _, text := range []string{"u8", "a", "b", "c", "q", "option<c>", "list<struct{x:b,y:c},2>", "struct{x:u8,y:a}", "struct{x:c,x:q}", "union{1:b,2:bool,1:a}", "struct{x:q,y:u8,x:b}"} {
			stock = append(stock, def(name, typed(t, text)...))
		}
	}
	faults := map[api.Errno]int{}
	var goOn func(l []api.Def)
	goOn = func(l []api.Def) {
		s := placed(source(l...))
		f := checkAll(t, s)
		faults[f.Err]++
		if f.Err == api.OK {
			checkLeast(t, s)
		}
		for i := 0; i < len(stock) && len(l) < 3; i++ {
			goOn(append(slices.Clone(l), stock[i]))
		}
	}
	goOn(nil)
	for _, e := range []api.Errno{api.OK, api.ErrTwice, api.ErrUnknown, api.ErrRing} {
		if faults[e] < 50 {
			t.Errorf("only %d small sources with error %d", faults[e], e)
		}
	}
}

// checkLeast: P8.4: of all orders, from the least list on, Order's is the first that may be.
func checkLeast(t *testing.T, s api.Source) {
	t.Helper()
	uses := matrix(s)
	for _, p := range permutations(len(s.Defs)) {
		may := true
		for k, i := range p {
			for _, j := range p[k:] {
				may = may && !uses[i][j]
			}
		}
		if may {
			if o, _ := names.Order(s); !slices.Equal(o, p) {
				t.Errorf("P8.4: Order of %s = %v, want %v", brief(s), o, p)
			}
			return
		}
	}
	t.Errorf("P8.4: %s has no order", brief(s))
}

// P8.4, P8.6: all ways in which five definitions may use those behind them in some order.
func TestOrderAll(t *testing.T) {
	const n = 5
	orders := permutations(n)
	for mask := range 1 << (n * (n - 1) / 2) {
		p := orders[mask%len(orders)]
		s, bit := source(make([]api.Def, n)...), 0
		for i := range n {
			l := []api.Expr{{Kind: api.KindStruct, Kids: 1}, {Kind: api.KindBool, Label: "z"}}
			for j := range i {
				if mask>>bit&1 == 1 {
					l[0].Kids++
					l = append(l, api.Expr{Kind: api.KindName, Name: "d" + strconv.Itoa(p[j]), Label: "f" + strconv.Itoa(j)})
				}
				bit++
			}
			s.Defs[p[i]] = def("d"+strconv.Itoa(p[i]), l...)
		}
		if f := checkAll(t, s); f.Err != api.OK {
			t.Errorf("P8.2: %s: %v", brief(s), f)
		}
		checkLeast(t, s)
	}
}

// layered: n definitions in layers of four, each made of the up to 64 last ones of the layers ahead: so each is as deep as its layer's number.
func layered(n int) []api.Def {
	var out []api.Def
	for i := range n {
		ahead := i / 4 * 4
		l := []api.Expr{{Kind: api.KindUnion, Kids: min(ahead, 64)}}
		for k := range min(ahead, 64) {
			l = append(l, api.Expr{Kind: api.KindName, Name: "d" + strconv.Itoa(ahead-1-k), Tag: k})
		}
		if ahead == 0 {
			l = []api.Expr{aBool}
		}
		out = append(out, def("d"+strconv.Itoa(i), l...))
	}
	return out
}

// P8.2, P8.4, P8.5: MaxDefs definitions, in all sorts, and more.
func TestManyDefs(t *testing.T) {
	var flat []api.Def
	var depths []int
	for i := range 256 {
		flat = append(flat, def("d"+strconv.Itoa(i), aBool))
		depths = append(depths, i/4+1)
	}
	told(t, source(flat...), numbersTo(256), slices.Repeat([]int{1}, 256), api.Fault{})
	up := layered(256)
	told(t, source(up...), numbersTo(256), depths, api.Fault{})
	slices.Reverse(up)
	slices.Reverse(depths)
	var order []int
	for layer := 63; layer >= 0; layer-- {
		order = append(order, 4*layer, 4*layer+1, 4*layer+2, 4*layer+3)
	}
	told(t, source(up...), order, depths, api.Fault{})
	checkAll(t, placed(source(up...)))
	for _, more := range []api.Def{def("e", aBool), def("d0", aBool), {}, def("e", api.Expr{Kind: api.KindName, Name: "q"})} {
		for _, list := range [][]api.Def{flat, up} {
			refused(t, placed(source(append(slices.Clone(list), more)...)), api.ErrSource, 0)
			refused(t, placed(source(append([]api.Def{more}, list...)...)), api.ErrSource, 0)
		}
	}
}

func numbersTo(n int) []int {
	out := []int{}
	for i := range n {
		out = append(out, i)
	}
	return out
}

// P8.2: a definition's name that a definition ahead has, wherever the two stand; the first of several.
func TestTwiceDefs(t *testing.T) {
	for _, n := range []int{2, 3, 20, 256} {
		for _, i := range []int{0, 1, 2, n / 2, n - 2} {
			for _, j := range []int{1, 2, 3, n / 2, n - 2, n - 1} {
				if j <= i || j >= n || i < 0 {
					continue
				}
				s := source()
				for k := range n {
					s.Defs = append(s.Defs, def("d"+strconv.Itoa(k), aBool))
				}
				s.Defs[j].Name = s.Defs[i].Name
				s = placed(s)
				refused(t, s, api.ErrTwice, s.Defs[j].At)
				found(t, s, s.Defs[i].Name, i, api.OK)
				s.Defs[n-1].Name = s.Defs[0].Name
				checkAll(t, s)
			}
		}
	}
	// What the names are used for is nothing: one that is twice there is no unknown one, and of none that it leads to.
	s := parsed(t, "type a=u8;type a=a;")
	refused(t, s, api.ErrTwice, s.Defs[1].At)
	s = parsed(t, "type a=a;type a=u8;")
	refused(t, s, api.ErrTwice, s.Defs[1].At)
	// Whole names are held against each other.
	for _, pair := range [][2]string{{"a", "ab"}, {strings.Repeat("n", 32), strings.Repeat("n", 31)}, {strings.Repeat("n", 31) + "a", strings.Repeat("n", 31) + "b"}, {"a1", "a2"}, {"a_", "a"}} {
		told(t, source(def(pair[0], aBool), def(pair[1], aBool)), []int{0, 1}, []int{1, 1}, api.Fault{})
	}
}

// P8.2: all pairs of fields and of arms that may be alike.
func TestTwiceParts(t *testing.T) {
	for _, kind := range []int{api.KindStruct, api.KindUnion} {
		for _, n := range []int{2, 3, 64} {
			for j := range n {
				for i := range j {
					s := placed(source(def("b", aBool), def("a", parts(kind, n)...)))
					l := s.Defs[1].Type
					told(t, s, []int{0, 1}, []int{1, 2}, api.Fault{})
					l[1+j].Label, l[1+j].Tag = l[1+i].Label, l[1+i].Tag
					refused(t, s, api.ErrTwice, l[1+j].At)
				}
			}
		}
		// Three alike, and two pairs.
		for _, c := range [][]int{{0, 0, 0}, {0, 1, 1, 0}, {0, 1, 0, 1}, {1, 2, 3, 3, 3}, {5, 5, 4, 4}} {
			s := placed(source(def("a", parts(kind, len(c))...)))
			free := parts(kind, 64)
			for k, like := range c {
				x := &s.Defs[0].Type[1+k]
				x.Label, x.Tag = free[1+like].Label, free[1+like].Tag
			}
			if f := checkAll(t, s); f.Err != api.ErrTwice {
				t.Errorf("P8.2: %v alike: %v", c, f)
			}
		}
	}
}

// parts: a struct or union of n parts.
func parts(kind, n int) []api.Expr {
	l := []api.Expr{{Kind: kind, Kids: n}}
	for i := range n {
		x := api.Expr{Kind: api.KindBool}
		if kind == api.KindStruct {
			x.Label = "p" + strings.Repeat("q", i%30) + strconv.Itoa(i/30)
		} else {
			x.Tag = i
		}
		l = append(l, x)
	}
	return l
}

// P8.2: labels and tags are held against those of the same struct or union alone, however they lie in one another.
func TestTwiceWithin(t *testing.T) {
	inner := []string{"struct{x:u8,y:u8}", "struct{y:u8,x:u8}", "union{0:u8,1:u8}", "union{1:u8,0:u8}", "struct{x:struct{x:u8},y:union{1:u8}}", "union{0:union{0:u8},1:struct{x:u8}}", "option<struct{x:u8,y:u8}>", "list<union{0:u8,1:u8},1>", "vector<struct{y:u8},1>", "u8"}
	// The great letters stand for what is put in there.
	outer := []string{"struct{x:I,y:J}", "union{0:I,1:J}", "struct{x:I,y:struct{x:J,y:u8}}", "union{0:I,1:union{0:J,1:u8}}", "struct{x:union{0:I,1:J},y:u8}", "struct{x:struct{x:I,y:J},y:u8}", "union{0:struct{x:I,y:J},1:u8}", "struct{a:option<struct{a:I,b:J}>,b:u8}"}
	for _, o := range outer {
		for _, i := range inner {
			for _, j := range inner {
				text := "type k=bool;type o=" + strings.NewReplacer("I", i, "J", j).Replace(o) + ";"
				s := placed(parsed(t, text))
				if f := checkAll(t, s); f.Err != api.OK {
					t.Errorf("P8.2: %q: %v", text, f)
				}
				checkTwiceAt(t, s)
			}
		}
	}
}

// checkTwiceAt: each field and arm made like each kid of the same parent ahead of it, and like those of others.
func checkTwiceAt(t *testing.T, s api.Source) {
	t.Helper()
	l := s.Defs[1].Type
	of := parents(l)
	for b := range l {
		held := l[b]
		for a := range b {
			if of[b] < 0 || of[a] < 0 || l[of[a]].Kind != l[of[b]].Kind || l[of[a]].Kids == 1 {
				continue
			}
			l[b].Label, l[b].Tag = l[a].Label, l[a].Tag
			f := checkAll(t, s)
			if twice := (f == api.Fault{Err: api.ErrTwice, At: l[b].At}); of[a] == of[b] && !twice {
				t.Errorf("P8.2: node %d of %s is twice there: %v", b, brief(s), f)
			}
			l[b] = held
		}
	}
}

// P8.2: a field or arm that is twice there and is an unknown name; a name that is unknown ahead of one that is twice there.
func TestTwiceAndUnknown(t *testing.T) {
	for _, c := range []struct {
		text string
		e    api.Errno
		node int
	}{
		{"struct{x:u8,x:q}", api.ErrTwice, 2},
		{"struct{x:q,x:u8}", api.ErrUnknown, 1},
		{"struct{x:q,x:q}", api.ErrUnknown, 1},
		{"union{7:u8,7:q}", api.ErrTwice, 2},
		{"union{7:q,7:u8}", api.ErrUnknown, 1},
		{"struct{x:u8,x:option<q>}", api.ErrTwice, 2},
		{"struct{x:option<q>,x:u8}", api.ErrUnknown, 2},
		{"struct{x:struct{y:q},x:u8}", api.ErrUnknown, 2},
		{"struct{x:struct{y:u8,y:q},x:q}", api.ErrTwice, 3},
		{"union{0:union{0:u8,0:q},0:u8}", api.ErrTwice, 3},
		{"union{0:union{0:u8,1:u8},0:q}", api.ErrTwice, 4},
		{"list<struct{x:u8,x:q},2>", api.ErrTwice, 3},
	} {
		s := placed(source(def("b", aBool), def("a", typed(t, c.text)...), def("c", typed(t, "struct{x:q,x:q}")...)))
		refused(t, s, c.e, s.Defs[1].Type[c.node].At)
		checkAll(t, s)
	}
}

// P8.2: a name that no definition has, at every place where a name may stand; those of definitions behind are known.
func TestUnknown(t *testing.T) {
	for _, text := range goodTexts() {
		s := placed(parsed(t, text))
		if len(s.Defs) > 20 {
			continue
		}
		for i := range s.Defs {
			for k := range s.Defs[i].Type {
				x := &s.Defs[i].Type[k]
				if x.Kind != api.KindName {
					continue
				}
				held := x.Name
				for _, name := range []string{"q", held + "a", held[:len(held)-1] + "q", strings.Repeat("n", 32), "x9"} {
					x.Name = name
					refused(t, s, api.ErrUnknown, x.At)
				}
				x.Name = held
			}
		}
		checkAll(t, s)
	}
	// Labels, and the names of fields, define nothing.
	s := parsed(t, "type a=struct{x:u8,y:x};")
	refused(t, s, api.ErrUnknown, s.Defs[0].Type[2].At)
}

// piece: definitions with one fault, and which: its look, the error, the definition and the node (-1: the name).
type piece struct {
	text      string
	look      int
	e         api.Errno
	def, node int
}

// pieces: one of each fault but the first look's; the sign ! stands for what makes the names of a piece its own.
func pieces() []piece {
	deep := strings.Join(row(5, nested("u8", 1, 16), func(i int, ahead string) string { return nested(ahead+"!", i, 16) }), "")
	for i := range 5 {
		deep = strings.ReplaceAll(deep, "type d"+strconv.Itoa(i)+"=", "type d"+strconv.Itoa(i)+"!=")
	}
	return []piece{
		{"type a!=u8;type b!=a!;", 9, api.OK, 0, 0},
		{"type a!=u8;type b!=bool;type a!=u8;", 2, api.ErrTwice, 2, -1},
		{"type a!=u8;type b!=struct{x:u8,y:u8,x:a!};", 2, api.ErrTwice, 1, 3},
		{"type a!=list<union{4:u8,4:u8},2>;", 2, api.ErrTwice, 0, 3},
		{"type a!=option<q>;", 2, api.ErrUnknown, 0, 1},
		{"type c!=a!;type a!=u8;type r!=struct{x:c!,y:s!};type s!=r!;", 3, api.ErrRing, 2, -1},
		{"type r!=list<r!,2>;", 3, api.ErrRing, 0, -1},
		{deep, 4, api.ErrDeep, 3, -1},
	}
}

// laid: the definitions of pieces, one behind the other, and the fault that is to be told: of the first look that has one, the first in the text.
func laid(t *testing.T, l []piece) (api.Source, api.Fault) {
	t.Helper()
	var s api.Source
	for k, p := range l {
		s.Defs = append(s.Defs, parsed(t, strings.ReplaceAll(p.text, "!", strconv.Itoa(k)+"_")).Defs...)
	}
	s = placed(s)
	var f api.Fault
	for look := 4; look >= 2; look-- {
		for first, k := len(s.Defs), len(l)-1; k >= 0; k-- {
			p := l[k]
			first -= strings.Count(p.text, "type ")
			if p.look != look {
				continue
			}
			f = api.Fault{Err: p.e, At: s.Defs[first+p.def].At}
			if p.node >= 0 {
				f.At = s.Defs[first+p.def].Type[p.node].At
			}
		}
	}
	return s, f
}

// P8.2: several faults in one source, in each order of the looks and of the text.
func TestSeveralFaults(t *testing.T) {
	list := pieces()
	var goOn func(l []piece)
	goOn = func(l []piece) {
		s, f := laid(t, l)
		if f.Err != api.OK {
			refused(t, s, f.Err, f.At)
		}
		if g := checkAll(t, s); g != f {
			t.Errorf("P8.2: %s: %v, want %v", brief(s), g, f)
		}
		checkFirstLook(t, s)
		for i := 0; i < len(list) && len(l) < 3; i++ {
			goOn(append(slices.Clone(l), list[i]))
		}
	}
	goOn(nil)
}

// checkFirstLook: what syntax.Check refuses goes ahead of all, wherever it stands.
func checkFirstLook(t *testing.T, s api.Source) {
	t.Helper()
	for _, i := range []int{0, len(s.Defs) - 1} {
		if i < 0 || i >= len(s.Defs) {
			continue
		}
		held := s.Defs[i]
		s.Defs[i].Name = "list"
		refused(t, s, api.ErrSource, 0)
		s.Defs[i].Name = held.Name
		s.Defs[i].Type = append(slices.Clone(held.Type), aBool)
		refused(t, s, api.ErrSource, 0)
		s.Defs[i] = held
	}
	s.Defs = append(slices.Clone(s.Defs), api.Def{Name: "e", At: 77})
	refused(t, s, api.ErrSource, 0)
}

// P8.1, P8.2: sources that syntax.Check refuses, each of its errors, and each field and node otherwise.
func TestRefused(t *testing.T) {
	many := parts(api.KindStruct, 65)
	for _, s := range []api.Source{
		source(def("a")), source(def("u8", aBool)), source(def("", aBool)), source(def("a", aBool, aBool)), source(def("a", anOpt)), source(def("a", aBool), def("b", anOpt)),
		source(def("a", api.Expr{Kind: api.KindUint, N: 3})), source(def("a", api.Expr{Kind: api.KindStruct})), source(def("a", aField)), source(def("a", api.Expr{Kind: api.KindName})), source(def("a", api.Expr{})),
		source(def("a", api.Expr{Kind: api.KindUnion, Kids: 1}, api.Expr{Kind: api.KindBool, Tag: -1})),
		source(def("a", many...)), source(def("a", parts(api.KindUnion, 65)...)), source(def("a", api.Expr{Kind: api.KindStruct, Kids: math.MaxInt}, aField)), source(def("a", api.Expr{Kind: api.KindOption, Kids: math.MinInt}, aField)),
		source(def("a", append(slices.Repeat([]api.Expr{anOpt}, 17), aBool)...)), source(def("a", append(slices.Repeat([]api.Expr{anOpt}, 70000), aBool)...)),
		source(make([]api.Def, 257)...), source(slices.Repeat([]api.Def{def("a", aBool)}, 257)...), source(make([]api.Def, 70000)...),
	} {
		refused(t, s, api.ErrSource, 0)
		refused(t, placed(s), api.ErrSource, 0)
	}
	texts := []string{"type a=c;type b=list<a,3>;type c=struct{x:u8,y:option<bool>};", "type d9=union{0:b,7:struct{x:b,y:u64}};type b=varint;", "type a=struct{x:a,x:q};", "type a=b;type b=a;"}
	for _, text := range texts {
		s := placed(parsed(t, text))
		changes(s, func(s api.Source) { checkAll(t, s) })
		rearranged(s, func(s api.Source) { checkAll(t, s) })
	}
}

// P8.2: rings of one, two and many definitions, wherever they begin, and definitions that lead into one.
func TestRings(t *testing.T) {
	for _, n := range []int{1, 2, 3, 7, 64, 65, 254} {
		for w := range nests() {
			for _, deep := range []int{0, 1, 16} {
				for _, turn := range []int{0, 1, n / 2} {
					ring := source()
					for i := range n {
						next := "r" + strconv.Itoa((i+1)%n)
						ring.Defs = append(ring.Defs, def("r"+strconv.Itoa(i), typed(t, nested(next, w+i, deep))...))
					}
					ring.Defs = slices.Concat(ring.Defs[turn%n:], ring.Defs[:turn%n])
					ring = placed(ring)
					refused(t, ring, api.ErrRing, ring.Defs[0].At)
					into := def("i", typed(t, nested("r0", w, deep))...)
					leaf := def("l", aBool)
					s := placed(source(slices.Concat([]api.Def{leaf, into}, ring.Defs)...))
					refused(t, s, api.ErrRing, s.Defs[2].At)
					s = placed(source(slices.Concat([]api.Def{into}, ring.Defs, []api.Def{leaf})...))
					refused(t, s, api.ErrRing, s.Defs[1].At)
				}
			}
		}
	}
	// A ring is told though all its definitions, and all ahead, are too deep by far.
	deep := row(256, nested("d255", 0, 16), func(i int, ahead string) string { return nested(ahead, i, 16) })
	var s api.Source
	for _, text := range deep {
		s.Defs = append(s.Defs, parsed(t, text).Defs...)
	}
	s = placed(s)
	refused(t, s, api.ErrRing, s.Defs[0].At)
}

// P8.2, P8.4: a definition that uses all others: each of its uses counts.
func TestManyUses(t *testing.T) {
	list := []api.Def{def("a", api.Expr{Kind: api.KindStruct, Kids: 4})}
	for i := range 255 {
		if i%64 == 0 {
			list[0].Type = append(list[0].Type, api.Expr{Kind: api.KindUnion, Kids: min(64, 255-i), Label: "f" + strconv.Itoa(i)})
		}
		list[0].Type = append(list[0].Type, api.Expr{Kind: api.KindName, Name: "d" + strconv.Itoa(i), Tag: i})
		list = append(list, def("d"+strconv.Itoa(i), aBool))
	}
	s := placed(source(list...))
	told(t, s, append(numbersTo(256)[1:], 0), append([]int{3}, slices.Repeat([]int{1}, 255)...), api.Fault{})
	for i := 1; i < 256; i++ {
		s.Defs[i].Type = []api.Expr{anOpt, {Kind: api.KindName, Name: "a"}}
		refused(t, s, api.ErrRing, s.Defs[0].At)
		s.Defs[i].Type = append(slices.Repeat([]api.Expr{anOpt}, 16), aBool)
		order, f := names.Order(s)
		depths, _ := names.Depth(s)
		if f.Err != api.OK || order[255] != 0 || depths[0] != 19 || depths[i] != 17 {
			t.Errorf("P8.5: definition %d is 17 deep: Order %s, Depth %s, %v", i, short(order), short(depths), f)
		}
		s.Defs[i].Type = []api.Expr{aBool}
	}
}

// P8.2: all ways in which four definitions may use one another.
func TestRingsAll(t *testing.T) {
	const n = 4
	rings := 0
	for mask := range 1 << (n * n) {
		s := source()
		for i := range n {
			l := []api.Expr{{Kind: api.KindUnion, Kids: 1}, aBool}
			for j := range n {
				if mask>>(n*i+j)&1 == 1 {
					l[0].Kids++
					l = append(l, api.Expr{Kind: api.KindName, Name: "d" + strconv.Itoa(j), Tag: 1 + j})
				}
			}
			s.Defs = append(s.Defs, def("d"+strconv.Itoa(i), l...))
		}
		if f := checkAll(t, placed(s)); f.Err == api.ErrRing {
			rings++
		}
	}
	if free := 1<<(n*n) - rings; free != 543 {
		t.Errorf("P8.2: %d ways without a ring, want 543", free)
	}
}

// P8.2, P8.5: depths of MaxDepth and of one more, made of definitions that are each so many deep, in some orders.
func TestDeep(t *testing.T) {
	for _, most := range []int{63, 64, 65, 66, 128} {
		for step := 1; step <= 16; step++ {
			for w := range nests() {
				checkDeep(t, most, step, w)
			}
		}
	}
}

func checkDeep(t *testing.T, most, step, w int) {
	t.Helper()
	var s api.Source
	at := map[string]int{}
	for depth := 0; depth < most; {
		more := min(step, most-depth)
		text := nested("d"+strconv.Itoa(depth), w+depth, more)
		if depth == 0 {
			text = nested("varint", w, more-1)
		}
		depth += more
		at["d"+strconv.Itoa(depth)] = depth
		s.Defs = append(s.Defs, def("d"+strconv.Itoa(depth), typed(t, text)...), def("n"+strconv.Itoa(depth), typed(t, "d"+strconv.Itoa(depth))...))
		at["n"+strconv.Itoa(depth)] = depth
	}
	d := dice(most*100 + step)
	for range 3 {
		s = placed(s)
		var want []int
		for _, d := range s.Defs {
			want = append(want, at[d.Name])
		}
		if first := slices.IndexFunc(want, func(d int) bool { return d > 64 }); first >= 0 {
			refused(t, s, api.ErrDeep, s.Defs[first].At)
		} else if depths, f := names.Depth(s); f.Err != api.OK || !slices.Equal(depths, want) {
			t.Errorf("P8.5: Depth of %s = %s, %v, want %s", brief(s), short(depths), f, short(want))
		}
		checkAll(t, s)
		var other []api.Def
		for _, i := range d.shuffled(len(s.Defs)) {
			other = append(other, s.Defs[i])
		}
		s.Defs = other
	}
}

// P8.5: without names: each kind, each kid the deepest one, and MaxNest.
func TestDepth(t *testing.T) {
	for text, want := range map[string]int{
		"u8": 1, "u16": 1, "u32": 1, "u64": 1, "bool": 1, "varint": 1, "vector<u8,0>": 2, "list<u8,2147483647>": 2, "option<u8>": 2, "struct{x:u8}": 2, "union{9:u8}": 2,
		"struct{x:option<u8>,y:u8,z:u8}": 3, "struct{x:u8,y:option<u8>,z:u8}": 3, "struct{x:u8,y:u8,z:option<u8>}": 3, "union{0:option<u8>,1:u8,2:u8}": 3, "union{0:u8,1:option<u8>,2:u8}": 3, "union{0:u8,1:u8,2:option<u8>}": 3,
		"struct{x:list<list<u8,1>,1>,y:list<u8,1>}": 4, "struct{x:list<u8,1>,y:list<list<u8,1>,1>}": 4, "option<struct{x:struct{y:union{0:u8,1:bool},z:u8},w:option<u8>}>": 5,
		"vector<vector<vector<u8,1>,1>,1>": 4,
	} {
		told(t, parsed(t, "type a="+text+";"), []int{0}, []int{want}, api.Fault{})
		told(t, parsed(t, "type a=option<b>;type b="+text+";type c=b;type e=struct{x:u8,y:a,z:c};"), []int{1, 0, 2, 3}, []int{want + 1, want, want, want + 2}, api.Fault{})
	}
	for i := range nests() {
		for n := range 17 {
			told(t, parsed(t, "type a="+nested("u8", i, n)+";"), []int{0}, []int{n + 1}, api.Fault{})
		}
	}
	// Of the names that are used, the deepest counts, wherever it stands.
	s := parsed(t, "type a=struct{x:p,y:q,z:r};type b=union{0:q,1:r,2:p};type c=struct{x:r,y:p,z:q};type p=u8;type q=list<p,1>;type r=option<option<q>>;")
	told(t, s, []int{3, 4, 5, 0, 1, 2}, []int{5, 5, 5, 1, 2, 4}, api.Fault{})
}

// P8.2: of several that are too deep the first in the list, not the first that leads there; names alone add nothing.
func TestDeepFirst(t *testing.T) {
	var list []api.Def
	for _, text := range row(256, nested("u8", 0, 16), func(i int, ahead string) string { return nested(ahead, i, 16) }) {
		list = append(list, parsed(t, text).Defs...)
	}
	s := placed(source(list...))
	refused(t, s, api.ErrDeep, s.Defs[3].At)
	slices.Reverse(list)
	s = placed(source(list...))
	refused(t, s, api.ErrDeep, s.Defs[0].At)
	s = placed(source(slices.Concat(list[253:], list[:253])...))
	refused(t, s, api.ErrDeep, s.Defs[3].At)
	names64 := parsed(t, strings.Join(row(256, nested("u8", 0, 16), func(i int, ahead string) string { return ahead }), ""))
	told(t, names64, numbersTo(256), slices.Repeat([]int{17}, 256), api.Fault{})
}

// P8.2: places are taken as they stand, any number, and change nothing else.
func TestPlaces(t *testing.T) {
	for _, text := range append(badTexts(), goodTexts()[:8]...) {
		s := parsed(t, text)
		if len(s.Defs) > 20 {
			s.Defs = s.Defs[:20]
		}
		_, _, want := model(s)
		for _, n := range strangeNumbers() {
			other := clone(s)
			for i := range other.Defs {
				other.Defs[i].At = n
				for k := range other.Defs[i].Type {
					other.Defs[i].Type[k].At = n
				}
			}
			f := checkAll(t, other)
			if f.Err != want.Err || f.Err != api.OK && f.At != n || f.Err == api.OK && f.At != 0 {
				t.Errorf("P8.2: %.100q with all places %d: %v", text, n, f)
			}
		}
	}
}
