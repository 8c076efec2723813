package fuse_test

import (
	"maps"
	"strconv"
	"strings"
	"testing"

	"mortise/api"
	"mortise/code"
	"mortise/fuse"
	"mortise/lower"
	"mortise/raise"
	"mortise/sound"
	"mortise/syntax"
	"mortise/types"
)

// schemaTexts: every kind of type, by itself and within others, and structs of many numbers.
func schemaTexts() []string {
	out := []string{
		"", "type a=u8;", "type a=bool; type b=varint; type c=u64;", "type a=vector<u8,3>;", "type a=vector<varint,3>;", "type a=list<u16,9>;", "type a=list<varint,9>;",
		"type a=option<u32>;", "type a=option<list<u8,5>>;", "type a=union{7:u8};", "type a=union{0:u8,9:varint,255:bool};", "type a=struct{x:u8,y:u8,z:u16};",
		"type a=struct{x:u8,y:u8,z:u8,w:u8};", "type a=struct{x:u8,y:u16,z:u32,w:u64};", "type a=struct{x:u16,y:u16,l:list<u8,9>,z:u16,w:u16};",
		"type a=struct{a:u8,b:list<u16,9>,c:u8};", "type p=struct{id:u32,name:list<u8,20>,ok:bool};", "type l=list<list<u16,9>,3>;", "type l=list<option<u8>,2>;",
		"type u=union{3:u16,200:option<varint>};", "type p=struct{x:u16,y:list<bool,3>}; type a=list<p,9>; type b=option<p>; type c=union{0:p,1:a,2:p};",
		"type t=struct{id:u64,at:u64}; type log=list<t,100>; type msg=union{1:t,2:log,3:vector<list<t,2>,4>,4:struct{a:option<t>,b:u8,c:vector<u8,16>}};",
	}
	arms, fields := make([]string, api.MaxArms), make([]string, api.MaxFields)
	for tag := range arms {
		arms[tag] = strconv.Itoa(255-tag) + ":u8"
	}
	out = append(out, "type a=union{"+strings.Join(arms, ",")+"};")
	for _, of := range []string{"u8", "u16", "u32", "u64"} {
		for k := range fields {
			fields[k] = "f" + strconv.Itoa(k) + ":" + of
		}
		out = append(out, "type a=struct{"+strings.Join(fields, ",")+"};")
		fields[20], fields[40] = "v:varint", "w:u16"
		out = append(out, "type a=struct{"+strings.Join(fields, ",")+"};")
	}
	return out
}

// built: both programs of a schema's text.
func built(t *testing.T, text string) []api.Program {
	t.Helper()
	source, f := syntax.Parse(text)
	if f != ok {
		t.Fatalf("P6.2: Parse(%q) = %v", text, f)
	}
	s, f := types.Build(source)
	if f != ok {
		t.Fatalf("P9.2: Build of %q: %v", text, f)
	}
	d, e := lower.Decoder(s)
	if e != api.OK {
		t.Fatalf("P16.2: Decoder of %q: %d", text, e)
	}
	p, e := raise.Encoder(s)
	if e != api.OK {
		t.Fatalf("P17.2: Encoder of %q: %d", text, e)
	}
	return []api.Program{d, p}
}

// P19.2, P19.3: what the compilers answer, in the small: their texts.
func TestBuilt(t *testing.T) {
	l := built(t, "type a=struct{x:u16,y:u16,l:list<u8,9>,z:u16,w:u16};")
	for n, want := range []string{
		"struct; uints 0 2 2; offset 12; uints 3 2 2; part 2 0 3; tail 0; ret",
		"fields 5; room 12; numbers 0 2 2; slot 4; append 3; numbers 8 2 2; ret",
	} {
		q, f := fuse.Fuse(l[n])
		if f != ok {
			t.Fatalf("P19.2: Fuse(%s): %v", brief(l[n]), f)
		}
		got := api.Program{Encodes: n == 1, Code: q.Code[q.Entry[len(q.Entry)-1]:]}
		if !code.Equal(got, written(n == 1, want)) {
			t.Errorf("P19.2: Fuse(%s) = %s", brief(l[n]), brief(q))
		}
		splitIs(t, l[n], l[n])
		splitIs(t, q, l[n])
	}
}

// takenPrograms: such as compilers lay, such with rows of numbers, jumps and litter about them, and such as look like chance.
func takenPrograms(t *testing.T) (out []api.Program) {
	out = []api.Program{{}, {Encodes: true}, everything(false), everything(true)}
	d := dice(31)
	for _, text := range schemaTexts() {
		for _, p := range built(t, text) {
			out = append(out, p)
			if len(p.Entry) > 0 {
				p = d.litter(laidIn(p, 0, d.rowOf(p.Encodes, 5)...), 30)
				out = append(out, p)
			}
		}
	}
	for n := range 4000 {
		p := d.laidOut(n%2 == 0, 1+d.below(5))
		out = append(out, p)
		for range 5 {
			if q := d.change(p); sound.Verify(q) == ok {
				out = append(out, q)
			}
		}
	}
	return out
}

// P19.2 to P19.7: each of them as the model has it, and what follows.
func TestModel(t *testing.T) {
	fewer, more, cut := 0, 0, 0
	for _, p := range takenPrograms(t) {
		if f := modelAll(t, p); f != ok {
			t.Fatalf("the test's program is refused: %s: %v", brief(p), f)
		}
		follows(t, p)
		if len(fuseOf(p).Code) < len(p.Code) {
			fewer++
		}
		if q, _ := splitOf(p); len(q.Code) > len(p.Code) {
			more++
		}
		if !rowsHaveForm(p) {
			cut++
		}
	}
	if fewer < 2000 || more < 2000 || cut < 100 {
		t.Errorf("only of %d Fuse makes fewer, of %d Split makes more, %d have a row that is too long", fewer, more, cut)
	}
}

// P19.2 to P19.7: programs that look like chance; the instruction at fault is thrown again and again, so that ever more of them are taken.
func TestChanceMended(t *testing.T) {
	d := dice(32)
	taken := 0
	for n := range 2000 {
		p := d.program(n%2 == 0, 2+d.below(14), 1+d.below(3))
		for range 60 {
			f := modelAll(t, p)
			if f == ok {
				taken++
				follows(t, p)
				p = d.change(p)
				mend(p)
				continue
			}
			at := f.At
			if f.Err != api.ErrCode || d.below(8) == 0 {
				at = d.below(len(p.Code))
			}
			p = cloned(p)
			p.Code[at] = d.instr(p.Encodes, len(p.Code), len(p.Entry))
			mend(p)
		}
	}
	if taken < 1500 {
		t.Errorf("only %d were taken", taken)
	}
}

// rowsHaveForm: P19.5: of each row of number instructions, each of which goes on the one ahead, one instruction with all their fields has its form.
func rowsHaveForm(p api.Program) bool {
	for at := 0; at < len(p.Code); {
		end := at + 1
		for end < len(p.Code) && goesOn(p.Encodes, p.Code[end-1], p.Code[end]) {
			end++
		}
		if end > at+1 && code.Check(api.Program{Encodes: p.Encodes, Code: []api.Instr{oneOf(p.Encodes, p.Code[at:end])}}) != ok {
			return false
		}
		at = end
	}
	return true
}

// answer: what a call answers, which must be without a fault.
func answer(t *testing.T, name string, call func(api.Program) (api.Program, api.Fault), p api.Program) api.Program {
	t.Helper()
	q, f := call(p)
	if f != ok {
		t.Fatalf("%s(%s): %v", name, brief(p), f)
	}
	return q
}

// follows holds a program that is taken against what follows, by what the calls answer alone.
func follows(t *testing.T, p api.Program) {
	t.Helper()
	fused, split := answer(t, "P19.2: Fuse", fuse.Fuse, p), answer(t, "P19.3: Split", fuse.Split, p)
	for name, q := range map[string]api.Program{"Fuse": fused, "Split": split} {
		if f := sound.Verify(q); f != ok {
			t.Errorf("P19.4: Verify of %s(%s) = %v", name, brief(p), f)
		}
		keeps(t, name, p, q)
		sameWay(t, name, p, q)
	}
	if q := answer(t, "P19.5: Fuse of Fuse", fuse.Fuse, fused); !code.Equal(q, fused) {
		t.Errorf("P19.5: Fuse(%s) = %s, and of that %s", brief(p), brief(fused), brief(q))
	}
	if q := answer(t, "P19.5: Split of Split", fuse.Split, split); !code.Equal(q, split) {
		t.Errorf("P19.5: Split(%s) = %s, and of that %s", brief(p), brief(split), brief(q))
	}
	if q := answer(t, "P19.5: Split of Fuse", fuse.Split, fused); !code.Equal(q, split) {
		t.Errorf("P19.5: Split(Fuse(%s)) = %s, but Split is %s", brief(p), brief(q), brief(split))
	}
	if q := answer(t, "P19.5: Fuse of Split", fuse.Fuse, split); rowsHaveForm(p) && !code.Equal(q, fused) {
		t.Errorf("P19.5: Fuse(Split(%s)) = %s, but Fuse is %s", brief(p), brief(q), brief(fused))
	}
	if len(fused.Code) > len(p.Code) || (len(fused.Code) == len(p.Code)) != code.Equal(fused, p) {
		t.Errorf("P19.6: Fuse(%s) = %s", brief(p), brief(fused))
	}
	if len(split.Code) < len(p.Code) {
		t.Errorf("P19.3: Split(%s) = %s", brief(p), brief(split))
	}
}

// keeps: P19.7.
func keeps(t *testing.T, name string, p, q api.Program) {
	t.Helper()
	if len(q.Entry) != len(p.Entry) || q.Encodes != p.Encodes || !maps.Equal(others(p), others(q)) {
		t.Errorf("P19.7: %s(%s) = %s", name, brief(p), brief(q))
	}
}

// others: how often each instruction that is no number instruction is there, but for its target.
func others(p api.Program) map[api.Instr]int {
	out := map[api.Instr]int{}
	for _, i := range p.Code {
		if l, _ := fieldList(i); len(l) > 0 {
			continue
		}
		if targeted(i.Op) {
			i.B = 0
		}
		out[i]++
	}
	return out
}

// spot: a place in a program: an instruction, and how many of its fields are done.
type spot struct{ at, field int }

// does: what is done at a spot, one field of several as if it stood alone, the target aside; and whether more of its fields come.
func does(p api.Program, s spot) (api.Instr, bool) {
	i := p.Code[s.at]
	if l, w := fieldList(i); len(l) > 1 {
		return api.Instr{Op: i.Op - 1, A: l[s.field], B: w}, s.field+1 < len(l)
	}
	if targeted(i.Op) {
		i.B = 0
	}
	return i, false
}

// sameWay: nothing that a machine answers is changed: all pairs of spots to which two walks come that take the same ways do the same.
func sameWay(t *testing.T, name string, p, q api.Program) {
	t.Helper()
	met := map[[2]spot]bool{}
	var work [][2]spot
	come := func(a, b spot) {
		// Code that no entry leads to isn't walked: so behind the last there is nothing.
		if pair := [2]spot{a, b}; !met[pair] {
			met[pair] = true
			work = append(work, pair)
		}
	}
	for k := range p.Entry {
		come(spot{at: p.Entry[k]}, spot{at: q.Entry[k]})
	}
	for len(work) > 0 {
		a, b := work[0][0], work[0][1]
		work = work[1:]
		i, more := does(p, a)
		j, other := does(q, b)
		if i != j {
			t.Fatalf("P19.2: in %s one comes to %v, but in %s of it to %v", brief(p), a, name, b)
		}
		nextOf := func(s spot, more bool) spot {
			if more {
				return spot{s.at, s.field + 1}
			}
			return spot{at: s.at + 1}
		}
		switch nameOf(i.Op) {
		case "ret":
			continue
		case "union", "choice":
			for k := range i.A {
				come(spot{at: a.at + 1 + k}, spot{at: b.at + 1 + k})
			}
			continue
		}
		if targeted(i.Op) {
			come(spot{at: p.Code[a.at].B}, spot{at: q.Code[b.at].B})
		}
		if nameOf(i.Op) != "arm" && nameOf(i.Op) != "jump" {
			come(nextOf(a, more), nextOf(b, other))
		}
	}
}
