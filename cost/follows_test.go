package cost_test

import (
	"strconv"
	"strings"
	"testing"

	"mortise/api"
	"mortise/cost"
	"mortise/lower"
	"mortise/prune"
	"mortise/size"
	"mortise/sound"
	"mortise/syntax"
	"mortise/types"
)

// schemaOf: the schema of a text that is a good one.
func schemaOf(t *testing.T, text string) api.Schema {
	t.Helper()
	source, f := syntax.Parse(text)
	if f != ok {
		t.Fatalf("P6.2: Parse(%.200q) = %v", text, f)
	}
	s, f := types.Build(source)
	if f != ok {
		t.Fatalf("P9.2: Build of %.200q: %v", text, f)
	}
	return s
}

// decoderOf: the code of a schema that is small enough.
func decoderOf(t *testing.T, s api.Schema) api.Program {
	t.Helper()
	p, e := lower.Decoder(s)
	if e != api.OK {
		t.Fatalf("P16.2: Decoder of %.200v: %d", s, e)
	}
	return p
}

// optimised: what the optimiser makes of a program that is taken.
func optimised(t *testing.T, p api.Program) api.Program {
	t.Helper()
	q, f := prune.Optimise(p)
	if f != ok {
		t.Fatalf("P20.3: Optimise(%s): %v", brief(p), f)
	}
	return q
}

// costNow: what Of answers of a program that is taken.
func costNow(t *testing.T, p api.Program) api.Cost {
	t.Helper()
	c, f := cost.Of(p)
	if f != ok {
		t.Fatalf("P21.3: Of(%s): %v", brief(p), f)
	}
	return c
}

// costOf: Steps, Nodes and Depth, as a text tells them.
func costOf(text string) api.Cost {
	n := numbersOf(text)
	return api.Cost{Steps: n[0], Nodes: n[1], Depth: n[2]}
}

// within: whether nothing costs more than in another cost.
func within(c, most api.Cost) bool {
	return c.Steps <= most.Steps && c.Nodes <= most.Nodes && c.Depth <= most.Depth
}

// follows holds a program that is taken against what follows: P21.4 by walks through its code, P21.6 by its optimised code.
func follows(t *testing.T, p api.Program) {
	t.Helper()
	walksAreStraight(t, p)
	segmentsAreWithin(t, p)
	paidIsWithin(t, p)
	best := optimised(t, p)
	if c, most := costNow(t, best), costNow(t, p); !within(c, most) {
		t.Fatalf("P21.6: %s costs %v, but Optimise of it, %s, %v", brief(p), most, brief(best), c)
	}
}

// bound: P21.5's, of a schema's greatest depth, and the most parts of its structs and unions.
func bound(d, f int) api.Cost {
	return api.Cost{Steps: (d + 1) * (5*f + 2*d + 8), Nodes: (d + 1) * (f + d + 2), Depth: d}
}

// boundOf: the same of a schema, its depth told by package size.
func boundOf(t *testing.T, s api.Schema) api.Cost {
	t.Helper()
	l, e := size.Of(s)
	if e != api.OK {
		t.Fatalf("P10.2: Of(%.200v): %d", s, e)
	}
	d, f := 0, 0
	for k, x := range l {
		d, f = max(d, x.Depth), max(f, len(s.Types[k].Parts))
	}
	return bound(d, f)
}

// isSmall: P21.5, of a schema: the code that lower makes of it, and what the optimiser makes of that.
func isSmall(t *testing.T, s api.Schema) {
	t.Helper()
	p, most := decoderOf(t, s), boundOf(t, s)
	for _, p := range []api.Program{p, optimised(t, p)} {
		if c := costNow(t, p); !within(c, most) {
			t.Fatalf("P21.5: of %.300v %v, above %v", s, c, most)
		}
	}
}

// schemaTexts: every kind of type, by itself and within others.
func schemaTexts() []string {
	return []string{
		"", "type a=u8;", "type a=bool; type b=varint; type c=u64;", "type a=vector<u8,3>;", "type a=vector<varint,3>;", "type a=list<u16,9>;", "type a=list<varint,9>;",
		"type a=option<u32>;", "type a=option<list<u8,5>>;", "type a=union{7:u8};", "type a=union{0:u8,9:varint,255:bool};", "type a=struct{x:u8,y:u8,z:u16};",
		"type a=struct{x:u8,y:u8,z:u8,w:u8};", "type a=struct{x:u8,y:u16,z:u32,w:u64};", "type a=struct{x:u16,y:u16,l:list<u8,9>,z:u16,w:u16};",
		"type a=struct{a:u8,b:list<u16,9>,c:u8};", "type p=struct{id:u32,name:list<u8,20>,ok:bool};", "type l=list<list<u16,9>,3>;", "type l=list<option<u8>,2>;",
		"type u=union{3:u16,200:option<varint>};", "type p=struct{x:u16,y:list<bool,3>}; type a=list<p,9>; type b=option<p>; type c=union{0:p,1:a,2:p};",
		"type t=struct{id:u64,at:u64}; type log=list<t,100>; type msg=union{1:t,2:log,3:vector<list<t,2>,4>,4:struct{a:option<t>,b:u8,c:vector<u8,16>}};",
		"type a=struct{a:list<u8,9>,b:list<u8,9>};", "type a=list<list<list<list<u8,3>,3>,3>,3>;", "type a=option<option<option<list<u8,3>>>>;", "type a=vector<vector<vector<u8,3>,3>,3>;",
	}
}

// P21.2 to P21.6: every kind of type as lower makes it: the model, what follows, the bounds.
func TestLowered(t *testing.T) {
	for _, text := range schemaTexts() {
		s := schemaOf(t, text)
		p := decoderOf(t, s)
		if modelAll(t, p) != ok || modelAll(t, optimised(t, p)) != ok {
			t.Fatalf("P16.3: %s is refused", brief(p))
		}
		follows(t, p)
		isSmall(t, s)
	}
}

// parts: a struct or union of so many parts, each of that type.
func parts(kind, many, of int) api.Type {
	x := api.Type{Kind: kind}
	for k := range many {
		p := api.Part{Type: of}
		if kind == api.KindStruct {
			p.Label = "f" + strconv.Itoa(k)
		} else {
			p.Tag = 255 - k
		}
		x.Parts = append(x.Parts, p)
	}
	return x
}

// inners: types whose parts may be costly: fixed ones, and such as may be without bytes, with the types that they are made of.
func inners() [][]api.Type {
	u8 := api.Type{Kind: api.KindUint, N: 1}
	number := api.Type{Kind: api.KindVarint}
	return [][]api.Type{
		{u8}, {{Kind: api.KindBool}}, {number},
		{u8, {Kind: api.KindList, N: 3}},
		{number, {Kind: api.KindList, N: 3}},
		{u8, {Kind: api.KindVector, N: 3}},
		{number, {Kind: api.KindVector, N: 3}},
		{u8, {Kind: api.KindOption}},
		{u8, parts(api.KindStruct, 2, 0)},
		{number, parts(api.KindStruct, 2, 0)},
		{number, parts(api.KindUnion, 2, 0)},
		{u8, {Kind: api.KindList, N: 3}, {Kind: api.KindList, N: 3, Elem: 1}},
		{u8, {Kind: api.KindList, N: 3}, parts(api.KindStruct, 2, 1)},
		{u8, {Kind: api.KindList, N: 3}, {Kind: api.KindOption, Elem: 1}},
	}
}

// P21.5: structs and unions of few and of many parts, of every kind, with one of the most parts below the top and at it.
func TestSmallByParts(t *testing.T) {
	for _, kind := range []int{api.KindStruct, api.KindUnion} {
		for _, many := range []int{1, 2, 3, 5, 17, 63, 64} {
			for _, inner := range inners() {
				s := api.Schema{Types: append(append([]api.Type{}, inner...), parts(kind, many, len(inner)-1))}
				isSmall(t, s)
				p := decoderOf(t, s)
				if many <= 5 {
					follows(t, p)
				}
				modelAll(t, p)
				top := len(s.Types) - 1
				for _, over := range []api.Type{{Kind: api.KindList, N: 3, Elem: top}, {Kind: api.KindOption, Elem: top}, {Kind: api.KindVector, N: 3, Elem: top}, parts(api.KindStruct, 2, top), parts(api.KindUnion, 2, top)} {
					isSmall(t, api.Schema{Types: append(s.Types[:top+1:top+1], over)})
				}
			}
		}
	}
}

// P21.2, P21.3, P21.5: of a struct of f lists the greatest S is 5 f + 1: each may be without bytes.
func TestStructOfLists(t *testing.T) {
	for f := 1; f <= api.MaxFields; f++ {
		s := api.Schema{Types: []api.Type{{Kind: api.KindUint, N: 1}, {Kind: api.KindList, N: 3}, parts(api.KindStruct, f, 1)}}
		costIs(t, decoderOf(t, s), api.Cost{Steps: 3 * (5*f + 1), Nodes: 3 * (f + 1), Depth: 2})
		isSmall(t, s)
	}
}

// pile: types one over the other, up to a depth, and how deep they call one another, if the lowest one is a part, which is called whatever it is.
type pile struct {
	name  string
	over  func(of int) api.Type
	parts bool
}

// P21.3, P21.5: types of every depth, one over the other. What is over a leaf reads it itself, unless it is a part.
func TestSmallByDepth(t *testing.T) {
	for _, x := range []pile{
		{"options", func(of int) api.Type { return api.Type{Kind: api.KindOption, Elem: of} }, false},
		{"unions", func(of int) api.Type { return parts(api.KindUnion, 64, of) }, false},
		{"lists", func(of int) api.Type { return api.Type{Kind: api.KindList, N: 1, Elem: of} }, true},
		{"vectors", func(of int) api.Type { return api.Type{Kind: api.KindVector, N: 1, Elem: of} }, true},
		{"structs", func(of int) api.Type { return parts(api.KindStruct, 1, of) }, true},
		{"structs, options and lists", func(of int) api.Type {
			return []api.Type{parts(api.KindStruct, 1, of), {Kind: api.KindOption, Elem: of}, {Kind: api.KindList, N: 1, Elem: of}}[of%3]
		}, true},
	} {
		for _, leaf := range []api.Type{{Kind: api.KindUint, N: 8}, {Kind: api.KindVarint}} {
			s := api.Schema{Types: []api.Type{leaf}}
			for d := 2; d <= api.MaxDepth; d++ {
				s.Types = append(s.Types, x.over(d-2))
				isSmall(t, s)
				want := d - 1
				if x.parts && leaf.Kind == api.KindVarint {
					want = d
				}
				if c := costNow(t, decoderOf(t, s)); c.Depth != want {
					t.Fatalf("P21.3: of %d %s: Depth %d, want %d", d, x.name, c.Depth, want)
				}
			}
		}
	}
}

// chanceSchema: types that look like chance, each of those ahead, at most so deep as may be and not too great.
func (d *dice) chanceSchema(n int) api.Schema {
	var s api.Schema
	for len(s.Types) < n {
		pick := func() int { return d.below(len(s.Types)) }
		x := []api.Type{{Kind: api.KindUint, N: 1 << d.below(4)}, {Kind: api.KindBool}, {Kind: api.KindVarint}}[d.below(3)]
		if len(s.Types) > 0 {
			switch d.below(7) {
			case 0, 1:
				x = api.Type{Kind: d.oneOf(api.KindVector, api.KindList), N: 1 + d.below(3), Elem: pick()}
			case 2:
				x = api.Type{Kind: api.KindOption, Elem: pick()}
			case 3, 4, 5:
				x = parts(d.oneOf(api.KindStruct, api.KindUnion), 1+d.below(5), 0)
				for k := range x.Parts {
					x.Parts[k].Type = pick()
				}
			}
		}
		longer := api.Schema{Types: append(s.Types[:len(s.Types):len(s.Types)], x)}
		if _, e := lower.Decoder(longer); e == api.OK && types.Check(longer) == ok {
			s = longer
		}
	}
	return s
}

// P21.2 to P21.6: schemas that look like chance.
func TestChanceSchemas(t *testing.T) {
	d := dice(41)
	for range 400 {
		s := d.chanceSchema(1 + d.below(12))
		p := decoderOf(t, s)
		modelAll(t, p)
		follows(t, p)
		isSmall(t, s)
	}
}

// takenPrograms: such as lower lays, such with detours, shared code and rubbish about them, and such as look like chance.
func takenPrograms(t *testing.T) (out []api.Program) {
	out = []api.Program{{}, whole(), everything()}
	d := dice(31)
	for _, text := range schemaTexts() {
		p := decoderOf(t, schemaOf(t, text))
		out = append(out, p)
		if len(p.Entry) > 0 {
			out = append(out, d.detour(d.detour(d.detour(p))), d.littered(p), d.shared(d.detour(d.shared(p))))
		}
	}
	for range 2500 {
		p := d.laidOut(1 + d.below(6))
		out = append(out, p)
		for range 5 {
			if q := d.change(p); sound.Verify(q) == ok {
				out = append(out, q)
			}
		}
	}
	return out
}

// P21.2 to P21.4, P21.6: each of them as the model has it, and what follows; what the optimiser makes of it too.
func TestModel(t *testing.T) {
	quiet, deep, idle := 0, 0, 0
	for _, p := range takenPrograms(t) {
		for _, p := range []api.Program{p, optimised(t, p)} {
			if f := modelAll(t, p); f != ok {
				t.Fatalf("the test's program is refused: %s: %v", brief(p), f)
			}
			follows(t, p)
		}
		w := wordsOf(p)
		quietTypes := 0
		for _, entry := range p.Entry {
			if w.z[inSteps][entry] >= 0 {
				quietTypes++
			}
		}
		for at, i := range p.Code {
			if w.inside[at] && isCall(i) && w.z[inSteps][p.Entry[i.C]] >= 0 {
				idle++
			}
		}
		quiet += min(quietTypes, 1)
		deep += min(max(most(w.depth)-2, 0), 1)
	}
	if quiet < 1000 || deep < 500 || idle < 1000 {
		t.Errorf("only %d have a type with a way without bytes, %d are deep, %d calls go on without bytes", quiet, deep, idle)
	}
}

// P21.1 to P21.4, P21.6: programs that look like chance; the instruction at fault is thrown again and again, so that ever more of them are taken.
func TestChanceMended(t *testing.T) {
	d := dice(32)
	taken := 0
	for range 1500 {
		p := d.program(false, 2+d.below(14), 1+d.below(3))
		for range 60 {
			f := modelAll(t, p)
			if f == ok {
				taken++
				follows(t, p)
				p = d.change(p)
				mend(p)
				continue
			}
			at := f.At
			if f.Err != api.ErrCode || d.below(8) == 0 {
				at = d.below(len(p.Code))
			}
			p = cloned(p)
			p.Code[at] = d.instr(p.Encodes, len(p.Code), len(p.Entry))
			mend(p)
		}
	}
	if taken < 1000 {
		t.Errorf("only %d were taken", taken)
	}
}

// P21.6: jumps put between, and runs cut into single numbers, cost; the optimiser takes them away again.
func TestOptimiserGains(t *testing.T) {
	for _, r := range [][3]string{
		{"jump 1; jump 2; bool -1; ret | 0", "6 2 1", "2 2 1"},
		{"seq; a: item 9 r; bool -1; jump b; b: jump c; c: jump a; r: ret | 0", "10 4 1", "6 4 1"},
		{"seq; jump 2; ret | 0", "6 2 1", "6 2 1"},
		{"struct; uint 0 1; uint 1 1; jump 4; ret | 0", "4 4 1", "4 4 1"},
	} {
		p := written(false, r[0])
		costIs(t, p, costOf(r[1]))
		costIs(t, optimised(t, p), costOf(r[2]))
		follows(t, p)
	}
}

// schemaText: of so many fields of a type.
func schemaText(many int, of string) string {
	l := make([]string, many)
	for k := range l {
		l[k] = "f" + strconv.Itoa(k) + ":" + of
	}
	return "type a=struct{" + strings.Join(l, ",") + "};"
}

// P21.5: by a text: as many types as fields.
func TestSmallByText(t *testing.T) {
	for _, many := range []int{1, 2, 9, 64} {
		for _, of := range []string{"u8", "varint", "list<u8,3>", "list<list<u8,3>,3>", "option<list<u8,3>>", "struct{a:list<u8,2>,b:list<u8,2>}", "union{1:list<u8,2>,2:u8}"} {
			isSmall(t, schemaOf(t, schemaText(many, of)))
		}
	}
}
