package types_test

import (
	"slices"
	"strconv"
	"strings"
	"testing"

	"mortise/api"
	"mortise/types"
)

// P9.3: schemas of no types, of no roots, of neither, and what Build answers.
func TestCheckTakes(t *testing.T) {
	checked(t, api.Schema{}, api.OK, 0)
	checked(t, api.Schema{Types: []api.Type{}, Roots: []api.Root{}}, api.OK, 0)
	checked(t, schema([]api.Type{boolean()}), api.OK, 0)
	checked(t, schema(nil, root("a", 0)), api.ErrSchema, 0)
	checked(t, schema(nil, root("a", -1)), api.ErrSchema, 0)
	for _, s := range goodSchemas(t) {
		checked(t, s, api.OK, 0)
		checkAll(t, s)
	}
	for _, text := range goodTexts() {
		got, _ := types.Build(parsed(t, text))
		checked(t, got, api.OK, 0)
	}
}

// asked holds Check of a type as number own, behind bools, against what is said: it is taken, or refused at its number.
func asked(t *testing.T, own int, x api.Type, ok bool) {
	t.Helper()
	s := schema(append(slices.Repeat([]api.Type{boolean()}, own), x))
	e, at := api.OK, 0
	if !ok {
		e, at = api.ErrSchema, own
	}
	checked(t, s, e, at)
	s.Types = append(s.Types, api.Type{})
	if ok {
		at = own + 1
	}
	checked(t, s, api.ErrSchema, at)
	checkAll(t, s)
}

// P9.3: kinds.
func TestCheckKinds(t *testing.T) {
	for _, kind := range strangeNumbers() {
		asked(t, 3, api.Type{Kind: kind}, kind == api.KindBool || kind == api.KindVarint || kind == api.KindOption)
		asked(t, 3, api.Type{Kind: kind, N: 1}, kind == api.KindUint || kind == api.KindVector || kind == api.KindList)
		asked(t, 0, api.Type{Kind: kind, N: 1}, kind == api.KindUint)
		asked(t, 0, api.Type{Kind: kind}, kind == api.KindBool || kind == api.KindVarint)
		asked(t, 3, api.Type{Kind: kind, Parts: []api.Part{field("a", 0)}}, kind == api.KindStruct)
		asked(t, 3, api.Type{Kind: kind, Parts: []api.Part{arm(0, 0)}}, kind == api.KindUnion)
		asked(t, 3, api.Type{Kind: kind, Elem: 2}, kind == api.KindOption)
	}
}

// P9.3: N of each kind.
func TestCheckN(t *testing.T) {
	for _, n := range strangeNumbers() {
		count := n >= 1 && n <= 1048576
		asked(t, 1, uN(n), n == 1 || n == 2 || n == 4 || n == 8)
		asked(t, 1, api.Type{Kind: api.KindBool, N: n}, n == 0)
		asked(t, 1, api.Type{Kind: api.KindVarint, N: n}, n == 0)
		asked(t, 1, vector(n, 0), count)
		asked(t, 1, list(n, 0), count)
		asked(t, 1, api.Type{Kind: api.KindOption, N: n}, n == 0)
		asked(t, 1, api.Type{Kind: api.KindUnion, N: n, Parts: []api.Part{arm(0, 0)}}, n == 0)
		asked(t, 1, api.Type{Kind: api.KindStruct, N: n, Parts: []api.Part{field("a", 0)}}, n == 0)
	}
}

// P9.3: Elem of each kind, and the types of parts: from 0 on, below the type's own number.
func TestCheckBelow(t *testing.T) {
	for _, own := range []int{0, 1, 2, 9, 300} {
		for _, n := range append(strangeNumbers(), own-1, own, own+1) {
			below := n >= 0 && n < own
			asked(t, own, vector(2, n), below)
			asked(t, own, list(2, n), below)
			asked(t, own, option(n), below)
			asked(t, own, api.Type{Kind: api.KindUint, N: 4, Elem: n}, n == 0)
			asked(t, own, api.Type{Kind: api.KindBool, Elem: n}, n == 0)
			asked(t, own, api.Type{Kind: api.KindVarint, Elem: n}, n == 0)
			asked(t, own, structure(field("a", n)), below)
			asked(t, own, union(arm(9, n)), below)
			if own == 0 {
				continue
			}
			asked(t, own, api.Type{Kind: api.KindStruct, Elem: n, Parts: []api.Part{field("a", own-1)}}, n == 0)
			asked(t, own, api.Type{Kind: api.KindUnion, Elem: n, Parts: []api.Part{arm(9, own-1)}}, n == 0)
			asked(t, own, structure(field("a", 0), field("b", n), field("c", own-1)), below)
			asked(t, own, structure(field("a", own-1), field("b", n)), below)
			asked(t, own, structure(field("a", n), field("b", 0)), below)
			asked(t, own, union(arm(1, 0), arm(2, n), arm(3, own-1)), below)
			asked(t, own, union(arm(1, own-1), arm(2, n)), below)
			asked(t, own, union(arm(1, n), arm(2, 0)), below)
		}
	}
}

// P9.3: labels and tags of parts, of the first one and of others.
func TestCheckParts(t *testing.T) {
	for _, text := range append(strangeTexts(), "varint", "vector", "bool", "option", "union", "u16", "u32", "u64", "u9") {
		part := field(text, 0)
		asked(t, 1, structure(part), isName(text))
		asked(t, 1, structure(field("mm", 0), part, field("pp", 0)), isName(text))
		asked(t, 1, structure(part, field("mm", 0)), isName(text))
		asked(t, 1, union(part), text == "")
		asked(t, 1, union(arm(5, 0), api.Part{Label: text, Tag: 6}, arm(7, 0)), text == "")
	}
	for _, n := range strangeNumbers() {
		asked(t, 1, union(arm(n, 0)), n >= 0 && n <= 255)
		asked(t, 1, union(arm(100, 0), arm(n, 0), arm(101, 0)), n >= 0 && n <= 255)
		asked(t, 1, union(arm(n, 0), arm(101, 0)), n >= 0 && n <= 255)
		asked(t, 1, structure(api.Part{Label: "a", Tag: n}), n == 0)
		asked(t, 1, structure(field("a", 0), api.Part{Label: "b", Tag: n}), n == 0)
	}
	for _, x := range []api.Type{uN(8), boolean(), number(), vector(1, 0), list(1, 0), option(0)} {
		asked(t, 1, x, true)
		for _, l := range [][]api.Part{{}, {{}}, {field("a", 0)}, {arm(3, 0)}, {field("a", 0), field("b", 0)}} {
			x.Parts = l
			asked(t, 1, x, len(l) == 0)
		}
	}
}

// manyParts: a struct or union of n parts.
func manyParts(kind, n int) api.Type {
	x := api.Type{Kind: kind}
	for i := range n {
		if kind == api.KindStruct {
			x.Parts = append(x.Parts, field("f"+strconv.Itoa(i), i%3))
		} else {
			x.Parts = append(x.Parts, arm(255-i%256, i%3))
		}
	}
	return x
}

// P9.3: how many parts.
func TestCheckManyParts(t *testing.T) {
	for _, n := range []int{0, 1, 2, 63, 64, 65, 66, 128, 255, 256, 257, 70000} {
		asked(t, 3, manyParts(api.KindStruct, n), n >= 1 && n <= 64)
		asked(t, 3, manyParts(api.KindUnion, n), n >= 1 && n <= 64)
	}
	asked(t, 3, structure([]api.Part{}...), false)
	asked(t, 3, union([]api.Part{}...), false)
}

// P9.3: no two parts of one type alike: any two of many, and those of unlike types may be.
func TestCheckTwice(t *testing.T) {
	for _, kind := range []int{api.KindStruct, api.KindUnion} {
		for _, n := range []int{2, 3, 64} {
			for i := range n {
				for k := range i {
					x := manyParts(kind, n)
					x.Parts[i].Label, x.Parts[i].Tag = x.Parts[k].Label, x.Parts[k].Tag
					asked(t, 3, x, false)
				}
			}
		}
		x := manyParts(kind, 5)
		checked(t, schema([]api.Type{boolean(), number(), uN(2), x, x, structure(field("f0", 3), field("f1", 4))}), api.OK, 0)
	}
	asked(t, 1, union(arm(0, 0), arm(0, 0)), false)
	asked(t, 1, union(arm(255, 0), arm(0, 0), arm(255, 0)), false)
	asked(t, 1, structure(field("a", 0), field("aa", 0), field("b", 0)), true)
	asked(t, 2, structure(field("a", 0), field("a", 1)), false)
	asked(t, 2, union(arm(4, 0), arm(4, 1)), false)
}

// over: a type of every kind that is made of another one, over that one.
func over(kind, below int) api.Type {
	switch kind {
	case api.KindStruct:
		return structure(field("a", below))
	case api.KindUnion:
		return union(arm(4, below))
	case api.KindOption:
		return option(below)
	}
	return api.Type{Kind: kind, N: 7, Elem: below}
}

// tower: n types, each made of the one ahead, of these kinds in turn.
func tower(n int, kinds ...int) []api.Type {
	l := []api.Type{uN(2)}
	for i := 1; i < n; i++ {
		l = append(l, over(kinds[i%len(kinds)], i-1))
	}
	return l
}

// P9.3: depth, at MaxDepth and above it, through every kind, the deepest part being the first, a middle or the last.
func TestCheckDeep(t *testing.T) {
	v, l, o, u, s := api.KindVector, api.KindList, api.KindOption, api.KindUnion, api.KindStruct
	for _, kinds := range [][]int{{v}, {l}, {o}, {u}, {s}, {v, l, o, u, s}, {s, u}, {o, s}} {
		checked(t, schema(tower(63, kinds...)), api.OK, 0)
		checked(t, schema(tower(64, kinds...)), api.OK, 0)
		for _, n := range []int{65, 66, 200, 70000} {
			checked(t, schema(tower(n, kinds...)), api.ErrDeep, 64)
		}
		for _, kind := range []int{v, l, o, u, s} {
			for below := 60; below < 64; below++ {
				x := schema(append(tower(64, kinds...), over(kind, below)))
				e, at := api.OK, 0
				if below == 63 {
					e, at = api.ErrDeep, 64
				}
				checked(t, x, e, at)
				checkAll(t, x)
			}
		}
	}
	full := tower(64, v, l, o, u, s)
	for _, c := range []struct {
		x  api.Type
		ok bool
	}{
		{structure(field("a", 63), field("b", 0)), false}, {structure(field("a", 0), field("b", 63)), false}, {structure(field("a", 0), field("b", 63), field("c", 1)), false}, {structure(field("a", 62), field("b", 62)), true},
		{union(arm(1, 63), arm(2, 0)), false}, {union(arm(1, 0), arm(2, 63)), false}, {union(arm(1, 0), arm(2, 63), arm(3, 1)), false}, {union(arm(1, 62), arm(2, 0), arm(3, 62)), true},
	} {
		e, at := api.ErrDeep, 64
		if c.ok {
			e, at = api.OK, 0
		}
		checked(t, schema(append(slices.Clone(full), c.x)), e, at)
	}
	// The first one that is too deep, whatever comes behind; those that are not deep are no matter, however many.
	x := append(slices.Repeat([]api.Type{boolean()}, 100), tower(66, o)...)
	for i := 101; i < len(x); i++ {
		x[i].Elem += 100
	}
	checked(t, schema(append(x, number(), option(0))), api.ErrDeep, 164)
	checked(t, schema(x[:164]), api.OK, 0)
	// A uN, bool or varint is 1 deep, behind whatever types.
	checked(t, schema(append(slices.Clone(full), uN(1), boolean(), number(), option(64), option(65), option(66))), api.OK, 0)
}

// P9.3: three looks, one behind the other.
func TestCheckOrder(t *testing.T) {
	deep := tower(65, api.KindOption)
	bad := api.Type{Kind: api.KindBool, N: 1}
	odd := root("list", 0)
	checked(t, schema(append(slices.Clone(deep), bad), odd), api.ErrSchema, 65)
	checked(t, schema(append(slices.Clone(deep), boolean(), bad, bad), odd), api.ErrSchema, 66)
	checked(t, schema(deep, odd), api.ErrDeep, 64)
	checked(t, schema(deep[:64], odd), api.ErrSchema, 64)
	checked(t, schema([]api.Type{bad, bad}, odd), api.ErrSchema, 0)
	checked(t, schema([]api.Type{boolean(), bad, {}}, odd), api.ErrSchema, 1)
	checked(t, schema([]api.Type{boolean(), boolean()}, root("a", 1), odd, odd), api.ErrSchema, 3)
	// A type that would lead to itself, or beyond the end, is refused ahead of any depth.
	checked(t, schema([]api.Type{option(0)}), api.ErrSchema, 0)
	checked(t, schema([]api.Type{boolean(), option(2), option(1)}), api.ErrSchema, 1)
	checked(t, schema(append(slices.Clone(deep), option(65))), api.ErrSchema, 65)
}

// rooted holds Check of two types with these roots against what is said: the number of the root at fault, or -1.
func rooted(t *testing.T, bad int, l ...api.Root) {
	t.Helper()
	s := schema([]api.Type{boolean(), option(0)}, l...)
	if bad < 0 {
		checked(t, s, api.OK, 0)
	} else {
		checked(t, s, api.ErrSchema, 2+bad)
	}
	checkAll(t, s)
}

// P9.3: roots: names, types, doubles, in the first, a middle and the last.
func TestCheckRoots(t *testing.T) {
	for i := range 3 {
		three := func(r api.Root) []api.Root {
			l := []api.Root{root("mm", 1), root("nn", 0), root("pp", 1)}
			l[i] = r
			return l
		}
		for _, text := range append(strangeTexts(), "varint", "vector", "bool", "option", "union", "u16", "u32", "u64", "u9") {
			bad := i
			if isName(text) {
				bad = -1
			}
			rooted(t, bad, three(root(text, 0))...)
		}
		for _, n := range strangeNumbers() {
			bad := i
			if n == 0 || n == 1 {
				bad = -1
			}
			rooted(t, bad, three(root("q", n))...)
		}
	}
	rooted(t, 1, root("a", 0), root("a", 0))
	rooted(t, 1, root("a", 0), root("a", 1), root("a", 0))
	rooted(t, 2, root("a", 0), root("b", 0), root("a", 1))
	rooted(t, 2, root("b", 0), root("a", 0), root("a", 1))
	rooted(t, -1, root("a", 0), root("b", 0), root("aa", 0), root("ab", 0))
	rooted(t, 1, root("a", 0), root("b", 2), root("a", 0))
	rooted(t, 1, root("a", 0), root("a", 2), root("u8", 0))
	rooted(t, 0, root("", 0), root("", 0))
}

// P9.3: root number MaxDefs is one too many.
func TestCheckManyRoots(t *testing.T) {
	var l []api.Root
	for i := range 300 {
		l = append(l, root("r"+strconv.Itoa(i), i%2))
		if i < 256 {
			rooted(t, -1, l...)
		} else {
			rooted(t, 256, l...)
		}
	}
	for i := 1; i < 256; i++ {
		other := slices.Clone(l)
		other[i].Name = "r" + strconv.Itoa(i/2)
		rooted(t, i, other...)
	}
	other := slices.Clone(l)
	other[255].Type = 2
	rooted(t, 255, other...)
	other = slices.Clone(l)
	other[256] = root("r0", 7)
	rooted(t, 256, other...)
	rooted(t, 0, slices.Repeat([]api.Root{root("list", 0)}, 70000)...)
	rooted(t, 1, slices.Repeat([]api.Root{root("a", 0)}, 70000)...)
	// The number of types and its own: of any number of types.
	for _, n := range []int{2, 64, 256, 1000} {
		checked(t, schema(slices.Repeat([]api.Type{boolean()}, n), l...), api.ErrSchema, n+256)
		checked(t, schema(slices.Repeat([]api.Type{boolean()}, n), l[:256]...), api.OK, 0)
	}
}

// P9.1, P9.3: each field of each type, part and root set otherwise.
func TestCheckEachField(t *testing.T) {
	for i, s := range goodSchemas(t) {
		if len(s.Types) > 40 || len(s.Roots) > 10 {
			continue
		}
		s = cloned(s)
		met := map[api.Errno]int{}
		changesOf(s, func() { met[checkAll(t, s).Err]++ })
		if len(s.Types) > 0 && (met[api.OK] == 0 || met[api.ErrSchema] == 0) {
			t.Errorf("P9.3: good schema %d, changed: %v", i, met)
		}
	}
}

// P9.1, P9.3: types, parts and roots left out, doubled, swapped, cut off, put in.
func TestCheckRearranged(t *testing.T) {
	for _, s := range goodSchemas(t) {
		if len(s.Types) > 100 || len(s.Roots) > 100 {
			continue
		}
		s = cloned(s)
		turned(&s.Types, rearranged(s.Types, api.Type{}, boolean(), option(0), structure(field("a", 0))), func() { checkAll(t, s) })
		turned(&s.Roots, rearranged(s.Roots, api.Root{}, root("new", 0), root("new", -1)), func() { checkAll(t, s) })
		for i := range s.Types {
			turned(&s.Types[i].Parts, rearranged(s.Types[i].Parts, api.Part{}, field("new", 0), arm(250, 0)), func() { checkAll(t, s) })
		}
	}
}

// P9.1, P9.3: all small schemas over a stock of types and roots.
func TestCheckSmall(t *testing.T) {
	stock := []api.Type{boolean(), uN(4), uN(3), option(0), option(1), list(1, 2), vector(0, 0), structure(field("a", 0), field("b", 1)), structure(field("a", 0), field("a", 0)), union(arm(1, 0), arm(0, 0)), union(arm(1, 2)), {}, {Kind: api.KindName}}
	roots := [][]api.Root{nil, {root("a", 0)}, {root("a", 0), root("b", 2)}, {root("a", 1), root("a", 0)}, {root("u8", 0)}}
	met := map[api.Errno]int{}
	var goOn func(l []api.Type, left int)
	goOn = func(l []api.Type, left int) {
		for _, r := range roots {
			met[checkAll(t, schema(l, r...)).Err]++
		}
		for i := 0; i < len(stock) && left > 0; i++ {
			goOn(append(slices.Clone(l), stock[i]), left-1)
		}
	}
	goOn(nil, 4)
	if met[api.OK] < 1000 || met[api.ErrSchema] < 1000 {
		t.Errorf("P9.3: small schemas: %v", met)
	}
}

// P9.1: a great schema comes to an end soon.
func TestCheckGreat(t *testing.T) {
	l := []api.Type{boolean(), number(), uN(1)}
	for range 20000 {
		l = append(l, manyParts(api.KindStruct, 64))
	}
	checked(t, schema(l), api.OK, 0)
	l = append(l, structure(field(strings.Repeat("n", 1<<20), 0)))
	checked(t, schema(l), api.ErrSchema, len(l)-1)
	// Of the ways down there are more than could be gone one by one.
	l = []api.Type{boolean()}
	for i := 1; i < 64; i++ {
		l = append(l, structure(field("a", i-1), field("b", i-1), field("c", i/2)))
	}
	checked(t, schema(l), api.OK, 0)
	checked(t, schema(append(l, structure(field("a", 0), field("b", 63)))), api.ErrDeep, 64)
}

// P9.4: the first root of a name, of any schema.
func TestFind(t *testing.T) {
	found(t, api.Schema{}, "a", 0, api.ErrRoot)
	found(t, api.Schema{}, "", 0, api.ErrRoot)
	odd := []string{"", "u8", "list", "A", "a b", "\xff\xfe", "é", "a\x00", strings.Repeat("n", 32), strings.Repeat("n", 33), strings.Repeat("x", 70000), "a"}
	var s api.Schema
	for i, name := range odd {
		found(t, s, name, 0, api.ErrRoot)
		s.Roots = append(s.Roots, root(name, -i))
	}
	for i, name := range odd {
		found(t, s, name, i, api.OK)
	}
	for _, name := range []string{"b", "aa", "a ", "\xff", "e", strings.Repeat("n", 31), strings.Repeat("n", 34)} {
		found(t, s, name, 0, api.ErrRoot)
	}
	// A root that stands twice, and more often: the first.
	s.Roots = slices.Repeat(s.Roots, 3)
	for i, name := range odd {
		found(t, s, name, i, api.OK)
	}
	s.Roots = nil
	for i := range 1000 {
		s.Roots = append(s.Roots, root("r"+strconv.Itoa(i/2), 1000-i))
	}
	for _, i := range []int{0, 1, 127, 128, 129, 255, 256, 499} {
		found(t, s, "r"+strconv.Itoa(i), 2*i, api.OK)
	}
	found(t, s, "r500", 0, api.ErrRoot)
	// The root's number, not its type's; a label is no root.
	s = schema([]api.Type{boolean(), structure(field("x", 0))}, root("a", 1), root("b", 1), root("c", 0))
	found(t, s, "a", 0, api.OK)
	found(t, s, "b", 1, api.OK)
	found(t, s, "c", 2, api.OK)
	found(t, s, "x", 0, api.ErrRoot)
}
