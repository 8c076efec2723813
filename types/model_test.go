package types_test

import (
	"fmt"
	"math"
	"slices"
	"strconv"
	"strings"
	"testing"

	"mortise/api"
	"mortise/names"
	"mortise/syntax"
	"mortise/types"
)

// ends: for each node the number of the one behind its expression.
func ends(l []api.Expr) []int {
	out := make([]int, len(l)+1)
	for k := len(l) - 1; k >= 0; k-- {
		next := k + 1
		for range l[k].Kids {
			next = out[next]
		}
		out[k] = next
	}
	return out
}

// kidsOf: the numbers of a node's kids.
func kidsOf(l []api.Expr, node int) []int {
	var out []int
	end := ends(l)
	next := node + 1
	for range l[node].Kids {
		out = append(out, next)
		next = end[next]
	}
	return out
}

// written: how many of an expression's nodes are no names.
func written(l []api.Expr) int {
	n := 0
	for _, x := range l {
		if x.Kind != api.KindName {
			n++
		}
	}
	return n
}

// place: how many nodes that are no names have their number ahead of a node: those that end ahead of it, and those inside it.
func place(l []api.Expr, node int) int {
	n := 0
	end := ends(l)
	for k, x := range l {
		if x.Kind != api.KindName && (end[k] <= node || node < k && k < end[node]) {
			n++
		}
	}
	return n
}

// numbersOf: for each definition, and each of its nodes, its type's number, reckoned for each by itself.
func numbersOf(s api.Source) [][]int {
	order, _ := names.Order(s)
	out := make([][]int, len(s.Defs))
	first := 0
	for _, i := range order {
		l := s.Defs[i].Type
		for k, x := range l {
			n := first + place(l, k)
			if x.Kind == api.KindName {
				used := slices.IndexFunc(s.Defs, func(d api.Def) bool { return d.Name == x.Name })
				n = out[used][0]
			}
			out[i] = append(out[i], n)
		}
		first += written(l)
	}
	return out
}

// schemaOf: the schema of a source in which all is well: each node's type is laid at its number.
func schemaOf(t *testing.T, s api.Source) api.Schema {
	t.Helper()
	var out api.Schema
	for _, d := range s.Defs {
		out.Types = append(out.Types, make([]api.Type, written(d.Type))...)
	}
	numbers := numbersOf(s)
	for i, d := range s.Defs {
		out.Roots = append(out.Roots, api.Root{Name: d.Name, Type: numbers[i][0]})
		for k, x := range d.Type {
			if x.Kind == api.KindName {
				continue
			}
			made := api.Type{Kind: x.Kind, N: x.N}
			for _, kid := range kidsOf(d.Type, k) {
				if x.Kind == api.KindStruct || x.Kind == api.KindUnion {
					made.Parts = append(made.Parts, api.Part{Label: d.Type[kid].Label, Tag: d.Type[kid].Tag, Type: numbers[i][kid]})
				} else {
					made.Elem = numbers[i][kid]
				}
			}
			if out.Types[numbers[i][k]].Kind != 0 {
				t.Fatalf("the model gives number %d twice: %s", numbers[i][k], brief(s))
			}
			out.Types[numbers[i][k]] = made
		}
	}
	return out
}

// model: what Build is to answer, by the chapter's words.
func model(t *testing.T, s api.Source) (api.Schema, api.Fault) {
	t.Helper()
	if _, _, e := syntax.Check(s); e != api.OK {
		return api.Schema{}, api.Fault{Err: e, At: 0}
	}
	if f := names.Check(s); f.Err != api.OK {
		return api.Schema{}, f
	}
	for _, d := range s.Defs {
		var arms []int
		for k, x := range d.Type {
			if x.Kind == api.KindUnion {
				arms = append(arms, kidsOf(d.Type, k)...)
			}
			if (x.Kind == api.KindVector || x.Kind == api.KindList) && (x.N < 1 || x.N > 1048576) || slices.Contains(arms, k) && x.Tag >= 256 {
				return api.Schema{}, api.Fault{Err: api.ErrBound, At: x.At}
			}
		}
	}
	return schemaOf(t, s), api.Fault{}
}

// same: are two schemas the same, a list that is nil being one without items?
func same(a, b api.Schema) bool {
	return slices.Equal(a.Roots, b.Roots) && slices.EqualFunc(a.Types, b.Types, func(x, y api.Type) bool {
		return x.Kind == y.Kind && x.N == y.N && x.Elem == y.Elem && slices.Equal(x.Parts, y.Parts)
	})
}

// brief: what is to be told, not too long to be read.
func brief(x any) string { return fmt.Sprintf("%.400s", fmt.Sprintf("%+v", x)) }

// built tells where Build's answer is another one than said.
func built(t *testing.T, s api.Source, want api.Schema, f api.Fault) {
	t.Helper()
	got, g := types.Build(s)
	if g != f || !same(got, want) {
		t.Errorf("P9.2: Build of %s = %s, %v, want %s, %v", brief(s), brief(got), g, brief(want), f)
	}
	if g.Err != api.OK && (got.Types != nil || got.Roots != nil) {
		t.Errorf("P9.2: Build of %s: %v, and beside it %s", brief(s), g, brief(got))
	}
}

// refused: a fault, and nothing else.
func refused(t *testing.T, s api.Source, e api.Errno, at int) {
	t.Helper()
	built(t, s, api.Schema{}, api.Fault{Err: e, At: at})
}

// checked tells where Check's answer is another one than said.
func checked(t *testing.T, s api.Schema, e api.Errno, at int) {
	t.Helper()
	if f := types.Check(s); f != (api.Fault{Err: e, At: at}) {
		t.Errorf("P9.3: Check of %s = %v, want {%d %d}", brief(s), f, e, at)
	}
}

// found tells where Find's answer is another one than said.
func found(t *testing.T, s api.Schema, name string, n int, e api.Errno) {
	t.Helper()
	if g, h := types.Find(s, name); g != n || h != e {
		t.Errorf("P9.4: Find(%s, %.40q) = %d, %d, want %d, %d", brief(s), name, g, h, n, e)
	}
}

// buildAll holds Build of any source against the model, and what is built against what follows.
func buildAll(t *testing.T, s api.Source) api.Fault {
	t.Helper()
	want, f := model(t, s)
	built(t, s, want, f)
	if f.Err == api.OK {
		follows(t, s)
	}
	return f
}

// follows: P9.5, P9.7: Check takes what is built, each type stands once, and each is used.
func follows(t *testing.T, s api.Source) {
	t.Helper()
	got, _ := types.Build(s)
	if f := types.Check(got); f != (api.Fault{}) {
		t.Errorf("P9.5: Check of what Build answers to %s: %v", brief(s), f)
	}
	n := 0
	for _, d := range s.Defs {
		n += written(d.Type)
	}
	if len(got.Types) != n || len(got.Roots) != len(s.Defs) {
		t.Errorf("P9.7: %s has %d nodes that are no names; its schema %d types and %d roots", brief(s), n, len(got.Types), len(got.Roots))
	}
	used := make([]int, len(got.Types))
	for _, r := range got.Roots {
		used[r.Type]++
	}
	for _, x := range got.Types {
		if x.Kind == api.KindVector || x.Kind == api.KindList || x.Kind == api.KindOption {
			used[x.Elem]++
		}
		for _, p := range x.Parts {
			used[p.Type]++
		}
	}
	if i := slices.Index(used, 0); i >= 0 {
		t.Errorf("P9.7: type %d of %s is used nowhere", i, brief(got))
	}
	for i, d := range s.Defs {
		found(t, got, d.Name, i, api.OK)
	}
}

// isName: may it be a name? (Written out anew.)
func isName(s string) bool {
	words := strings.Fields("type u8 u16 u32 u64 bool varint vector list option union struct")
	if s == "" || len(s) > 32 || slices.Contains(words, s) {
		return false
	}
	return s[0] >= 'a' && s[0] <= 'z' && strings.Trim(s, "abcdefghijklmnopqrstuvwxyz0123456789_") == ""
}

// unlike: has no item a key that another one has?
func unlike[T any, K comparable](l []T, key func(T) K) bool {
	met := map[K]bool{}
	for _, x := range l {
		met[key(x)] = true
	}
	return len(met) == len(l)
}

// typeByWords: P9.3's conditions of one type, all of them together.
func typeByWords(x api.Type, own int) bool {
	k := x.Kind
	below := func(n int) bool { return n >= 0 && n < own }
	ok := k >= api.KindUint && k <= api.KindStruct
	n := map[int]bool{api.KindUint: slices.Contains([]int{1, 2, 4, 8}, x.N), api.KindVector: x.N >= 1 && x.N <= 1048576, api.KindList: x.N >= 1 && x.N <= 1048576}
	if right, asked := n[k]; asked {
		ok = ok && right
	} else {
		ok = ok && x.N == 0
	}
	if slices.Contains([]int{api.KindVector, api.KindList, api.KindOption}, k) {
		ok = ok && below(x.Elem)
	} else {
		ok = ok && x.Elem == 0
	}
	for _, p := range x.Parts {
		ok = ok && below(p.Type)
		ok = ok && (k == api.KindStruct && isName(p.Label) && p.Tag == 0 || k == api.KindUnion && p.Label == "" && p.Tag >= 0 && p.Tag <= 255)
	}
	switch k {
	case api.KindStruct:
		ok = ok && len(x.Parts) >= 1 && len(x.Parts) <= 64 && unlike(x.Parts, func(p api.Part) string { return p.Label })
	case api.KindUnion:
		ok = ok && len(x.Parts) >= 1 && len(x.Parts) <= 64 && unlike(x.Parts, func(p api.Part) int { return p.Tag })
	}
	return ok
}

// deepness: a type's depth, down through those that it is made of; what is known is remembered.
func deepness(l []api.Type, i int, known map[int]int) int {
	if known[i] == 0 {
		made := []int{}
		if l[i].Kind == api.KindVector || l[i].Kind == api.KindList || l[i].Kind == api.KindOption {
			made = append(made, l[i].Elem)
		}
		for _, p := range l[i].Parts {
			made = append(made, p.Type)
		}
		deepest := 0
		for _, k := range made {
			deepest = max(deepest, deepness(l, k, known))
		}
		known[i] = deepest + 1
	}
	return known[i]
}

// checkByWords: what Check is to answer, by P9.3's words.
func checkByWords(s api.Schema) api.Fault {
	for i, x := range s.Types {
		if !typeByWords(x, i) {
			return api.Fault{Err: api.ErrSchema, At: i}
		}
	}
	known := map[int]int{}
	for i := range s.Types {
		if deepness(s.Types, i, known) > 64 {
			return api.Fault{Err: api.ErrDeep, At: i}
		}
	}
	for i, r := range s.Roots {
		ahead := slices.ContainsFunc(s.Roots[:i], func(q api.Root) bool { return q.Name == r.Name })
		if ahead || !isName(r.Name) || r.Type < 0 || r.Type >= len(s.Types) || i >= 256 {
			return api.Fault{Err: api.ErrSchema, At: len(s.Types) + i}
		}
	}
	return api.Fault{}
}

// checkAll holds Check and Find of any schema against the words.
func checkAll(t *testing.T, s api.Schema) api.Fault {
	t.Helper()
	f := checkByWords(s)
	checked(t, s, f.Err, f.At)
	for i, r := range s.Roots {
		if !slices.ContainsFunc(s.Roots[:i], func(q api.Root) bool { return q.Name == r.Name }) {
			found(t, s, r.Name, i, api.OK)
		}
	}
	return f
}

// parsed: the source of a text that is a good one.
func parsed(t *testing.T, text string) api.Source {
	t.Helper()
	s, f := syntax.Parse(text)
	if f.Err != api.OK {
		t.Fatalf("P6.2: Parse(%.200q) = %v", text, f)
	}
	return s
}

func def(name string, l ...api.Expr) api.Def { return api.Def{Name: name, Type: l} }

func source(l ...api.Def) api.Source { return api.Source{Defs: l} }

// clone, cloned: new memory, without spare room.
func clone(s api.Source) api.Source {
	out := api.Source{Defs: slices.Clip(slices.Clone(s.Defs))}
	for i := range out.Defs {
		out.Defs[i].Type = slices.Clip(slices.Clone(out.Defs[i].Type))
	}
	return out
}

func cloned(s api.Schema) api.Schema {
	out := api.Schema{Types: slices.Clip(slices.Clone(s.Types)), Roots: slices.Clip(slices.Clone(s.Roots))}
	for i := range out.Types {
		out.Types[i].Parts = slices.Clip(slices.Clone(out.Types[i].Parts))
	}
	return out
}

// placed: a copy of a source whose places are all unlike, and fall where the text goes on: the first place is not the least.
func placed(s api.Source) api.Source {
	out, at := clone(s), 9000
	for i := range out.Defs {
		at -= 3
		out.Defs[i].At = at
		for k := range out.Defs[i].Type {
			at--
			out.Defs[i].Type[k].At = at
		}
	}
	return out
}

// nests: every way in which an expression may lie in another one, one deeper: what stands ahead of it and behind.
func nests() [][2]string {
	return [][2]string{{"option<", ">"}, {"list<", ",1>"}, {"vector<", ",1048576>"}, {"struct{a:", "}"}, {"union{0:", "}"}, {"struct{a:u8,b:", ",c:bool}"}, {"union{0:u8,255:", ",2:bool}"}, {"struct{a:", ",b:u8}"}, {"union{3:varint,2:", "}"}}
}

// nested: a text in n others, of the ways that follow one another from number i on.
func nested(text string, i, n int) string {
	for k := range n {
		w := nests()[(i+k)%len(nests())]
		text = w[0] + text + w[1]
	}
	return text
}

// row: definitions d0, d1, .. each made of the one ahead by a function of its number.
func row(n int, first string, next func(i int, ahead string) string) []string {
	out := []string{"type d0=" + first + ";"}
	for i := 1; i < n; i++ {
		out = append(out, "type d"+strconv.Itoa(i)+"="+next(i, "d"+strconv.Itoa(i-1))+";")
	}
	return out
}

// wide: the text of a struct or union of n parts, of these types in turn.
func wide(kind string, n int, of ...string) string {
	var l []string
	for i := range n {
		head := "f" + strconv.Itoa(i)
		if kind == "union" {
			head = strconv.Itoa(255 - i)
		}
		l = append(l, head+":"+of[i%len(of)])
	}
	return kind + "{" + strings.Join(l, ",") + "}"
}

// goodTexts: sources in which all is well, ordinary ones and those at the limits.
func goodTexts() []string {
	out := []string{
		"", "type a=u8;", "type a=b;type b=u64;", "type b=u32;type a=b;", "type a=c;type b=list<a,3>;type c=struct{x:u8,y:option<bool>};",
		"type z=struct{p:b,q:a};type a=u8;type b=a;type c=z;",
		"type a=struct{x:struct{x:u8},y:u8};", "type a=union{200:u8,255:u8,0:u8};",
		"type x=struct{x:y,y:y};type y=struct{y:z,x:z,z:z};type z=u64;",
		"type a=struct{p:struct{x:u8,y:u8},q:struct{y:u8,x:u8},x:union{0:u8,1:u8},y:union{1:u8,0:struct{x:bool,y:bool}}};",
		"type e=vector<d,1>;type d=list<c,1>;type c=option<b>;type b=union{0:a,1:f};type a=varint;type f=bool;",
		"type a=struct{x:c,y:b};type b=struct{x:d};type c=struct{x:d};type d=u8;",
		"type a=vector<list<u8,1048576>,1048576>;type b=list<vector<a,1>,1>;",
		"type a=" + wide("struct", 64, "u8", "b", "list<c,7>") + ";type b=" + wide("union", 64, "bool", "c", "option<c>") + ";type c=varint;",
	}
	for i := range nests() {
		out = append(out, "type a="+nested("b", i, 16)+";type b="+nested("u16", i, 16)+";")
		chain := row(64, "u8", func(k int, ahead string) string { return nested(ahead, i+k, 1) })
		out = append(out, strings.Join(chain, ""))
		slices.Reverse(chain)
		out = append(out, strings.Join(chain, ""))
	}
	flat := row(256, "varint", func(i int, ahead string) string { return ahead })
	out = append(out, strings.Join(flat, ""))
	slices.Reverse(flat)
	return append(out, strings.Join(flat, ""))
}

// badTexts: sources with a fault, of each kind.
func badTexts() []string {
	return []string{
		"type a=b;", "type a=u8;type a=b;", "type a=struct{x:u8,x:q};", "type a=union{1:u8,0:u8,1:u8};", "type a=a;type b=q;", "type a=a;", "type a=struct{x:list<a,3>,y:u8};",
		"type c=a;type a=list<b,1>;type b=option<a>;", "type a=vector<u8,0>;", "type a=list<u8,1048577>;type b=a;", "type a=union{0:u8,256:u8};", "type b=a;type a=struct{x:u8,y:union{1:u8,2147483647:u8}};",
		strings.Join(row(65, "u8", func(i int, ahead string) string { return "option<" + ahead + ">" }), ""),
	}
}

// goodSchemas: those of the good texts, and some that no source denotes.
func goodSchemas(t *testing.T) []api.Schema {
	t.Helper()
	var out []api.Schema
	for _, text := range goodTexts() {
		out = append(out, schemaOf(t, parsed(t, text)))
	}
	boolean := api.Type{Kind: api.KindBool}
	return append(out,
		api.Schema{Types: []api.Type{boolean}},
		api.Schema{Types: []api.Type{boolean, boolean, {Kind: api.KindOption}}, Roots: []api.Root{{Name: "z", Type: 2}}},
		api.Schema{Types: []api.Type{{Kind: api.KindUint, N: 8, Parts: []api.Part{}}, {Kind: api.KindStruct, Parts: []api.Part{{Label: "y"}, {Label: "x"}}}}, Roots: []api.Root{{Name: "b", Type: 1}, {Name: "a", Type: 1}}},
	)
}

// strangeNumbers: at all edges, negative and very great ones.
func strangeNumbers() []int {
	return []int{math.MinInt, math.MinInt + 1, -1 << 32, -1 << 31, -8, -2, -1, 0, 1, 2, 3, 4, 5, 6, 7, 8, 9, 10, 16, 63, 64, 65, 254, 255, 256, 257, 1<<20 - 1, 1 << 20, 1<<20 + 1, 1<<31 - 1, 1 << 31, 1<<32 + 1, 1<<32 + 8, 1<<62 - 1, 1 << 62, math.MaxInt - 1, math.MaxInt}
}

// strangeTexts: names, and what is none.
func strangeTexts() []string {
	return []string{"", "type", "u8", "list", "struct", "a", "b", "c", "d0", "d9", "x", "q", "z9_", strings.Repeat("n", 32), strings.Repeat("n", 33), "A", "_", "_a", "9a", "a b", "a\x00", "é", "lists", ";", "\xff"}
}

// turned: does something to a field again and again, and lets be called what looks; the field is then as before.
func turned[T any](field *T, to []T, look func()) {
	held := *field
	for _, x := range to {
		*field = x
		look()
	}
	*field = held
}

// changes: each field of each definition and node of a source is set otherwise, one by one.
func changes(s api.Source, look func()) {
	n, texts := strangeNumbers(), strangeTexts()
	for i := range s.Defs {
		d := &s.Defs[i]
		turned(&d.Name, texts, look)
		turned(&d.At, n, look)
		for k := range d.Type {
			x := &d.Type[k]
			for _, field := range []*int{&x.Kind, &x.N, &x.Tag, &x.Kids, &x.At} {
				turned(field, n, look)
			}
			turned(&x.Name, texts, look)
			turned(&x.Label, texts, look)
		}
	}
}

// changesOf: each field of each type, part and root of a schema is set otherwise, one by one.
func changesOf(s api.Schema, look func()) {
	texts := strangeTexts()
	n := append(strangeNumbers(), len(s.Types)-1, len(s.Types), len(s.Types)+1)
	for i := range s.Types {
		x := &s.Types[i]
		n := append(slices.Clone(n), i-1, i, i+1)
		for _, field := range []*int{&x.Kind, &x.N, &x.Elem} {
			turned(field, n, look)
		}
		turned(&x.Parts, [][]api.Part{nil, {}, {{}}, {{Label: "a"}}, {{Label: "a"}, {Label: "b"}}, {{Tag: 1}}, {{Tag: 1}, {Tag: 0}}, {{Label: "a", Tag: 1}}}, look)
		for k := range x.Parts {
			turned(&x.Parts[k].Label, texts, look)
			turned(&x.Parts[k].Tag, n, look)
			turned(&x.Parts[k].Type, n, look)
		}
	}
	for i := range s.Roots {
		turned(&s.Roots[i].Name, texts, look)
		turned(&s.Roots[i].Type, n, look)
	}
}

// without, doubled, swapped: a list with the item at i left out, with it twice, with it and the next one in the other order.
func without[T any](l []T, i int) []T { return slices.Concat(l[:i], l[i+1:]) }

func doubled[T any](l []T, i int) []T { return slices.Concat(l[:i+1], l[i:]) }

func swapped[T any](l []T, i int) []T {
	return slices.Concat(l[:i], []T{l[i+1], l[i]}, l[i+2:])
}

// rearranged: all lists that come of one by leaving out, doubling, swapping and cutting off, and by one more.
func rearranged[T any](l []T, more ...T) [][]T {
	var out [][]T
	for i := range l {
		out = append(out, without(l, i), doubled(l, i), l[:i])
		if i+1 < len(l) {
			out = append(out, swapped(l, i))
		}
	}
	for _, x := range more {
		out = append(out, append(slices.Clone(l), x), append([]T{x}, l...))
	}
	return out
}

// permutations: all orders of the numbers below n, the least list first.
func permutations(n int) [][]int {
	if n == 0 {
		return [][]int{{}}
	}
	var out [][]int
	for first := range n {
		for _, rest := range permutations(n - 1) {
			l := []int{first}
			for _, k := range rest {
				if k >= first {
					k++
				}
				l = append(l, k)
			}
			out = append(out, l)
		}
	}
	return out
}

// ordered: a source whose definitions stand in an order of their numbers.
func ordered(s api.Source, order []int) api.Source {
	var out api.Source
	for _, i := range order {
		out.Defs = append(out.Defs, s.Defs[i])
	}
	return clone(out)
}

// dice: numbers that look like chance, the same ones each time.
type dice uint64

func (d *dice) below(n int) int {
	*d = *d*6364136223846793005 + 1442695040888963407
	return int(uint64(*d)>>33) % n
}

// shuffled: the numbers below n in some order.
func (d *dice) shuffled(n int) []int {
	var out []int
	for i := range n {
		out = slices.Insert(out, d.below(len(out)+1), i)
	}
	return out
}

// chance: a source of n definitions that looks like chance, in which all is well, and each stands behind those that it uses.
func chance(d *dice, n int) api.Source {
	var s api.Source
	var depths []int
	for i := range n {
		var l []api.Expr
		var grow func(deep int, label string, tag int) int
		grow = func(deep int, label string, tag int) int {
			at := len(l)
			l = append(l, api.Expr{Kind: 1 + d.below(9), Label: label, Tag: tag})
			x := &l[at]
			if x.Kind == api.KindName {
				if j := d.below(i + 1); j < i && depths[j] < 40 {
					x.Name = s.Defs[j].Name
					return depths[j]
				}
				x.Kind = api.KindBool
			}
			if x.Kind > api.KindVarint && deep > 4 {
				x.Kind = api.KindVarint
			}
			switch x.Kind {
			case api.KindUint:
				x.N = 1 << d.below(4)
				return 1
			case api.KindVector, api.KindList:
				x.N = 1 + d.below(api.MaxCount)
				fallthrough
			case api.KindOption:
				x.Kids = 1
				return 1 + grow(deep+1, "", 0)
			case api.KindUnion, api.KindStruct:
				kids, of, first := 1+d.below(4), x.Kind, d.below(250)
				x.Kids = kids
				deepest := 0
				for k := range kids {
					if of == api.KindStruct {
						deepest = max(deepest, grow(deep+1, "f"+strconv.Itoa(kids-k), 0))
					} else {
						deepest = max(deepest, grow(deep+1, "", first+k))
					}
				}
				return 1 + deepest
			}
			return 1
		}
		depths = append(depths, grow(0, "", 0))
		s.Defs = append(s.Defs, def("d"+strconv.Itoa(i), l...))
	}
	return s
}
