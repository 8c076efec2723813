package names_test

import (
	"cmp"
	"fmt"
	"math"
	"slices"
	"strconv"
	"strings"
	"testing"

	"mortise/api"
	"mortise/names"
	"mortise/syntax"
)

// behind: the number of the node behind the expression that begins at a node.
func behind(l []api.Expr, node int) int {
	next := node + 1
	for range l[node].Kids {
		next = behind(l, next)
	}
	return next
}

// parents: of each node the number of the last one ahead whose expression goes on behind it.
func parents(l []api.Expr) []int {
	out := make([]int, len(l))
	out[0] = -1
	for a := range l {
		end := behind(l, a)
		for b := a + 1; b < end; b++ {
			out[b] = a
		}
	}
	return out
}

// spot: where a fault stands in the text's order (node -1: the definition's name), and, of two at one node, which is named first.
type spot struct {
	def, node, rank int
	fault           api.Fault
}

// spotsOf: all faults of the second look, in the order in which they are found: not yet the text's.
func spotsOf(s api.Source) []spot {
	var out []spot
	for j, d := range s.Defs {
		for i := range j {
			if s.Defs[i].Name == d.Name {
				out = append(out, spot{j, -1, 0, api.Fault{Err: api.ErrTwice, At: d.At}})
			}
		}
	}
	for i, d := range s.Defs {
		for k, x := range d.Type {
			same := func(other api.Def) bool { return other.Name == x.Name }
			if x.Kind == api.KindName && !slices.ContainsFunc(s.Defs, same) {
				out = append(out, spot{i, k, 1, api.Fault{Err: api.ErrUnknown, At: x.At}})
			}
		}
		out = append(out, doubles(i, d.Type)...)
	}
	return out
}

// doubles: the fields and arms of one definition that are twice there: each parent's kids, held against each other.
func doubles(def int, l []api.Expr) []spot {
	var out []spot
	kids := map[int][]int{}
	for k, p := range parents(l) {
		kids[p] = append(kids[p], k)
	}
	for p, list := range kids {
		for n, b := range list {
			for _, a := range list[:n] {
				if p >= 0 && (l[p].Kind == api.KindStruct && l[a].Label == l[b].Label || l[p].Kind == api.KindUnion && l[a].Tag == l[b].Tag) {
					out = append(out, spot{def, b, 0, api.Fault{Err: api.ErrTwice, At: l[b].At}})
				}
			}
		}
	}
	return out
}

// number: the first definition of a name, or -1.
func number(s api.Source, name string) int {
	return slices.IndexFunc(s.Defs, func(d api.Def) bool { return d.Name == name })
}

// matrix: which definition uses which; of a source whose names are all defined.
func matrix(s api.Source) [][]bool {
	out := make([][]bool, len(s.Defs))
	for i, d := range s.Defs {
		out[i] = make([]bool, len(s.Defs))
		for _, x := range d.Type {
			if x.Kind == api.KindName {
				out[i][number(s, x.Name)] = true
			}
		}
	}
	return out
}

// closed: which definition leads to which.
func closed(uses [][]bool) [][]bool {
	out := make([][]bool, len(uses))
	for i := range uses {
		out[i] = slices.Clone(uses[i])
	}
	for k := range out {
		for i := range out {
			for j := 0; out[i][k] && j < len(out); j++ {
				out[i][j] = out[i][j] || out[k][j]
			}
		}
	}
	return out
}

// deepness: the depth of the expression that begins at a node, down through names; what is known of names is remembered.
func deepness(s api.Source, l []api.Expr, node int, known map[string]int) int {
	x := l[node]
	if x.Kind == api.KindName {
		if known[x.Name] == 0 {
			known[x.Name] = deepness(s, s.Defs[number(s, x.Name)].Type, 0, known)
		}
		return known[x.Name]
	}
	deepest, next := 0, node+1
	for range x.Kids {
		deepest = max(deepest, deepness(s, l, next, known))
		next = behind(l, next)
	}
	return deepest + 1
}

// greedy: Order by the words of P8.4, of a source without a ring.
func greedy(uses [][]bool) []int {
	var out []int
	for len(out) < len(uses) {
		least := -1
		for i := len(uses) - 1; i >= 0; i-- {
			ready := !slices.Contains(out, i)
			for j, u := range uses[i] {
				ready = ready && (!u || slices.Contains(out, j))
			}
			if ready {
				least = i
			}
		}
		out = append(out, least)
	}
	return out
}

// model: all that is to be answered, by the chapter's words: every fault is gathered, and then the first one picked.
func model(s api.Source) (order, depths []int, f api.Fault) {
	if _, _, e := syntax.Check(s); e != api.OK {
		return nil, nil, api.Fault{Err: api.ErrSource}
	}
	if spots := spotsOf(s); len(spots) > 0 {
		first := slices.MinFunc(spots, func(a, b spot) int {
			return cmp.Or(a.def-b.def, a.node-b.node, a.rank-b.rank)
		})
		return nil, nil, first.fault
	}
	uses := matrix(s)
	for i, row := range closed(uses) {
		if row[i] {
			return nil, nil, api.Fault{Err: api.ErrRing, At: s.Defs[i].At}
		}
	}
	known := map[string]int{}
	for _, d := range s.Defs {
		depths = append(depths, deepness(s, d.Type, 0, known))
	}
	if i := slices.IndexFunc(depths, func(d int) bool { return d > 64 }); i >= 0 {
		return nil, nil, api.Fault{Err: api.ErrDeep, At: s.Defs[i].At}
	}
	return greedy(uses), depths, api.Fault{}
}

// brief: what is to be told, not too long to be read.
func brief(s api.Source) string { return fmt.Sprintf("%.400s", fmt.Sprintf("%+v", s)) }

func short(l []int) string { return fmt.Sprintf("%.200s", fmt.Sprint(l)) }

// told tells where the answers to a source are other ones than said.
func told(t *testing.T, s api.Source, order, depths []int, want api.Fault) {
	t.Helper()
	if f := names.Check(s); f != want {
		t.Errorf("P8.2: Check of %s = %v, want %v", brief(s), f, want)
	}
	if o, f := names.Order(s); f != want || !slices.Equal(o, order) {
		t.Errorf("P8.4: Order of %s = %s, %v, want %s, %v", brief(s), short(o), f, short(order), want)
	}
	if d, f := names.Depth(s); f != want || !slices.Equal(d, depths) {
		t.Errorf("P8.5: Depth of %s = %s, %v, want %s, %v", brief(s), short(d), f, short(depths), want)
	}
}

// refused: a fault, and nothing else.
func refused(t *testing.T, s api.Source, e api.Errno, at int) {
	t.Helper()
	told(t, s, nil, nil, api.Fault{Err: e, At: at})
}

// checkAll holds the answers to any source against the model, and what follows from them.
func checkAll(t *testing.T, s api.Source) api.Fault {
	t.Helper()
	order, depths, f := model(s)
	told(t, s, order, depths, f)
	for _, d := range s.Defs {
		found(t, s, d.Name, number(s, d.Name), api.OK)
	}
	if f.Err == api.OK {
		checkOrder(t, s)
	}
	return f
}

// checkOrder: P8.6: each number once, each behind those that it uses.
func checkOrder(t *testing.T, s api.Source) {
	t.Helper()
	order, _ := names.Order(s)
	place := map[int]int{}
	for i, n := range order {
		place[n] = i + 1
	}
	for i, row := range matrix(s) {
		for j, u := range row {
			if u && place[j] >= place[i] {
				t.Errorf("P8.6: Order of %s = %s: %d is not behind %d, which it uses", brief(s), short(order), i, j)
			}
		}
	}
	sorted := slices.Sorted(slices.Values(order))
	for i := range s.Defs {
		if len(order) != len(s.Defs) || sorted[i] != i {
			t.Fatalf("P8.6: Order of %s = %s: not each number once", brief(s), short(order))
		}
	}
}

// found tells where Find's answer is another one than said.
func found(t *testing.T, s api.Source, name string, n int, e api.Errno) {
	t.Helper()
	if g, h := names.Find(s, name); g != n || h != e {
		t.Errorf("P8.3: Find(%s, %q) = %d, %d, want %d, %d", brief(s), name, g, h, n, e)
	}
}

// parsed: the source of a text that is a good one.
func parsed(t *testing.T, text string) api.Source {
	t.Helper()
	s, f := syntax.Parse(text)
	if f.Err != api.OK {
		t.Fatalf("P6.2: Parse(%.200q) = %v", text, f)
	}
	return s
}

// typed: the nodes of a type's text.
func typed(t *testing.T, text string) []api.Expr {
	t.Helper()
	return parsed(t, "type a="+text+";").Defs[0].Type
}

func def(name string, l ...api.Expr) api.Def { return api.Def{Name: name, Type: l} }

func source(l ...api.Def) api.Source { return api.Source{Defs: l} }

// clone: new memory, without spare room.
func clone(s api.Source) api.Source {
	out := api.Source{Defs: slices.Clip(slices.Clone(s.Defs))}
	for i := range out.Defs {
		out.Defs[i].Type = slices.Clip(slices.Clone(out.Defs[i].Type))
	}
	return out
}

// placed: a copy of a source whose places are all unlike, and fall where the text goes on: the first place is not the least.
func placed(s api.Source) api.Source {
	out, at := clone(s), 900
	for i := range out.Defs {
		at -= 3
		out.Defs[i].At = at
		for k := range out.Defs[i].Type {
			at--
			out.Defs[i].Type[k].At = at
		}
	}
	return out
}

// nests: every way in which an expression may lie in another one, one deeper: what stands ahead of it and behind.
func nests() [][2]string {
	return [][2]string{{"option<", ">"}, {"list<", ",1>"}, {"vector<", ",0>"}, {"struct{a:", "}"}, {"union{0:", "}"}, {"struct{a:u8,b:", ",c:bool}"}, {"union{0:u8,1:", ",2:bool}"}, {"struct{a:", ",b:u8}"}, {"union{3:varint,2:", "}"}}
}

// nested: a text in n others, of the ways that follow one another from number i on.
func nested(text string, i, n int) string {
	for k := range n {
		w := nests()[(i+k)%len(nests())]
		text = w[0] + text + w[1]
	}
	return text
}

// row: definitions d0, d1, .. in the order of a text's form, each made of the one ahead by a function of its number.
func row(n int, first string, next func(i int, ahead string) string) []string {
	out := []string{"type d0=" + first + ";"}
	for i := 1; i < n; i++ {
		out = append(out, "type d"+strconv.Itoa(i)+"="+next(i, "d"+strconv.Itoa(i-1))+";")
	}
	return out
}

// goodTexts: sources in which all is well, ordinary ones and those at the limits.
func goodTexts() []string {
	out := []string{
		"", "type a=u8;", "type a=b;type b=u8;", "type b=u8;type a=b;", "type a=c;type b=list<a,3>;type c=struct{x:u8,y:option<bool>};",
		"type z=struct{p:b,q:a};type a=u8;type b=a;type c=z;",
		"type a=struct{x:struct{x:u8},y:u8};", "type a=u8;type b=list<a,0>;", "type a=union{300:u8,2147483647:u8,0:u8};",
		"type x=struct{x:y,y:y};type y=struct{y:z,x:z,z:z};type z=u64;",
		"type a=struct{p:struct{x:u8,y:u8},q:struct{y:u8,x:u8},x:union{0:u8,1:u8},y:union{1:u8,0:struct{x:bool,y:bool}}};",
		"type e=vector<d,1>;type d=list<c,1>;type c=option<b>;type b=union{0:a,1:f};type a=varint;type f=bool;",
		"type a=struct{x:c,y:b};type b=struct{x:d};type c=struct{x:d};type d=u8;",
	}
	for i := range nests() {
		out = append(out, "type a="+nested("b", i, 16)+";type b="+nested("u16", i, 16)+";")
		chain := row(64, "u8", func(k int, ahead string) string { return nested(ahead, i+k, 1) })
		out = append(out, strings.Join(chain, ""))
		slices.Reverse(chain)
		out = append(out, strings.Join(chain, ""))
	}
	flat := row(256, "varint", func(i int, ahead string) string { return ahead })
	out = append(out, strings.Join(flat, ""))
	slices.Reverse(flat)
	return append(out, strings.Join(flat, ""))
}

// badTexts: sources with a fault, of each kind.
func badTexts() []string {
	return []string{
		"type a=b;", "type a=u8;type a=b;", "type a=struct{x:u8,x:q};", "type a=union{1:u8,0:u8,1:u8};", "type a=a;type b=q;", "type a=a;", "type a=struct{x:list<a,3>,y:u8};",
		"type c=a;type a=list<b,1>;type b=option<a>;", "type a=u8;type b=struct{x:union{0:a,1:a,0:a}};",
		strings.Join(row(65, "u8", func(i int, ahead string) string { return "option<" + ahead + ">" }), ""),
	}
}

// strangeNumbers: at all edges, negative and very great ones.
func strangeNumbers() []int {
	return []int{math.MinInt, math.MinInt + 1, -1 << 32, -1 << 31, -8, -2, -1, 0, 1, 2, 3, 4, 5, 6, 7, 8, 9, 10, 64, 65, 255, 256, 257, 1<<31 - 1, 1 << 31, 1<<32 + 1, 1<<62 - 1, 1 << 62, math.MaxInt - 1, math.MaxInt}
}

// strangeTexts: names, and what is none.
func strangeTexts() []string {
	return []string{"", "type", "u8", "list", "struct", "a", "b", "c", "d0", "d9", "x", "q", strings.Repeat("n", 32), strings.Repeat("n", 33), "A", "_", "9a", "a b", "a\x00", "é", "lists", ";", "\xff"}
}

// changes: does something to each field of each definition and node of a source, one by one, and lets be called what looks at it; the source is then as before.
func changes(s api.Source, look func(s api.Source)) {
	number := func(field *int) {
		held := *field
		for _, n := range strangeNumbers() {
			*field = n
			look(s)
		}
		*field = held
	}
	text := func(field *string) {
		held := *field
		for _, x := range strangeTexts() {
			*field = x
			look(s)
		}
		*field = held
	}
	for i := range s.Defs {
		d := &s.Defs[i]
		text(&d.Name)
		number(&d.At)
		for k := range d.Type {
			x := &d.Type[k]
			number(&x.Kind)
			number(&x.N)
			text(&x.Name)
			text(&x.Label)
			number(&x.Tag)
			number(&x.Kids)
			number(&x.At)
		}
	}
}

// without, doubled, swapped: a list with the item at i left out, with it twice, with it and the next one in the other order.
func without[T any](l []T, i int) []T { return slices.Concat(l[:i], l[i+1:]) }

func doubled[T any](l []T, i int) []T { return slices.Concat(l[:i+1], l[i:]) }

func swapped[T any](l []T, i int) []T {
	return slices.Concat(l[:i], []T{l[i+1], l[i]}, l[i+2:])
}

// rearranged: lets be called what looks at a source with its definitions, and the nodes of each, left out, doubled, swapped, cut off, and with one more.
func rearranged(s api.Source, look func(s api.Source)) {
	for i := range s.Defs {
		look(source(without(s.Defs, i)...))
		look(source(doubled(s.Defs, i)...))
		look(source(s.Defs[:i]...))
		if i+1 < len(s.Defs) {
			look(source(swapped(s.Defs, i)...))
		}
		l := s.Defs[i].Type
		other := clone(s)
		set := func(l []api.Expr) {
			other.Defs[i].Type = l
			look(other)
		}
		for k := range l {
			set(without(l, k))
			set(doubled(l, k))
			set(l[:k])
			if k+1 < len(l) {
				set(swapped(l, k))
			}
		}
		set(append(slices.Clone(l), api.Expr{}))
		set(append(slices.Clone(l), api.Expr{Kind: api.KindBool}))
	}
	look(source(append(slices.Clone(s.Defs), api.Def{})...))
}

// permutations: all orders of the numbers below n, the least list first.
func permutations(n int) [][]int {
	if n == 0 {
		return [][]int{{}}
	}
	var out [][]int
	for first := range n {
		for _, rest := range permutations(n - 1) {
			l := []int{first}
			for _, k := range rest {
				if k >= first {
					k++
				}
				l = append(l, k)
			}
			out = append(out, l)
		}
	}
	return out
}

// dice: numbers that look like chance, the same ones each time.
type dice uint64

func (d *dice) below(n int) int {
	*d = *d*6364136223846793005 + 1442695040888963407
	return int(uint64(*d)>>33) % n
}

// shuffled: the numbers below n in some order.
func (d *dice) shuffled(n int) []int {
	var out []int
	for i := range n {
		out = slices.Insert(out, d.below(len(out)+1), i)
	}
	return out
}
