package prune_test

import (
	"strconv"
	"strings"
	"testing"

	"mortise/api"
	"mortise/code"
	"mortise/flow"
	"mortise/fuse"
	"mortise/lower"
	"mortise/prune"
	"mortise/raise"
	"mortise/sound"
	"mortise/syntax"
	"mortise/types"
)

// schemaTexts: every kind of type, by itself and within others, and structs of many numbers.
func schemaTexts() []string {
	out := []string{
		"", "type a=u8;", "type a=bool; type b=varint; type c=u64;", "type a=vector<u8,3>;", "type a=vector<varint,3>;", "type a=list<u16,9>;", "type a=list<varint,9>;",
		"type a=option<u32>;", "type a=option<list<u8,5>>;", "type a=union{7:u8};", "type a=union{0:u8,9:varint,255:bool};", "type a=struct{x:u8,y:u8,z:u16};",
		"type a=struct{x:u8,y:u8,z:u8,w:u8};", "type a=struct{x:u8,y:u16,z:u32,w:u64};", "type a=struct{x:u16,y:u16,l:list<u8,9>,z:u16,w:u16};",
		"type a=struct{a:u8,b:list<u16,9>,c:u8};", "type p=struct{id:u32,name:list<u8,20>,ok:bool};", "type l=list<list<u16,9>,3>;", "type l=list<option<u8>,2>;",
		"type u=union{3:u16,200:option<varint>};", "type p=struct{x:u16,y:list<bool,3>}; type a=list<p,9>; type b=option<p>; type c=union{0:p,1:a,2:p};",
		"type t=struct{id:u64,at:u64}; type log=list<t,100>; type msg=union{1:t,2:log,3:vector<list<t,2>,4>,4:struct{a:option<t>,b:u8,c:vector<u8,16>}};",
	}
	arms, fields := make([]string, api.MaxArms), make([]string, api.MaxFields)
	for tag := range arms {
		arms[tag] = strconv.Itoa(255-tag) + ":u8"
	}
	out = append(out, "type a=union{"+strings.Join(arms, ",")+"};")
	for _, of := range []string{"u8", "u64"} {
		for k := range fields {
			fields[k] = "f" + strconv.Itoa(k) + ":" + of
		}
		out = append(out, "type a=struct{"+strings.Join(fields, ",")+"};")
		fields[20], fields[40] = "v:varint", "w:u16"
		out = append(out, "type a=struct{"+strings.Join(fields, ",")+"};")
	}
	return out
}

// built: both programs of a schema's text.
func built(t *testing.T, text string) []api.Program {
	t.Helper()
	source, f := syntax.Parse(text)
	if f != ok {
		t.Fatalf("P6.2: Parse(%q) = %v", text, f)
	}
	s, f := types.Build(source)
	if f != ok {
		t.Fatalf("P9.2: Build of %q: %v", text, f)
	}
	d, e := lower.Decoder(s)
	if e != api.OK {
		t.Fatalf("P16.2: Decoder of %q: %d", text, e)
	}
	p, e := raise.Encoder(s)
	if e != api.OK {
		t.Fatalf("P17.2: Encoder of %q: %d", text, e)
	}
	return []api.Program{d, p}
}

// takenPrograms: such as compilers lay, what each pass makes of them, such with detours, jumps and rubbish about them, and such as look like chance.
func takenPrograms(t *testing.T) (out []api.Program) {
	out = []api.Program{{}, {Encodes: true}, everything(false), everything(true)}
	d := dice(31)
	for _, text := range schemaTexts() {
		for _, p := range built(t, text) {
			out = append(out, p)
			if len(p.Entry) > 0 {
				out = append(out, d.detour(d.detour(d.detour(p))), d.littered(p), d.littered(d.detour(d.littered(d.detour(p)))))
			}
		}
	}
	for n := range 3000 {
		p := d.laidOut(n%2 == 0, 1+d.below(5))
		out = append(out, p)
		for range 5 {
			if q := d.change(p); sound.Verify(q) == ok {
				out = append(out, q)
			}
		}
	}
	return out
}

// P20.2 to P20.6: each of them, and what each pass makes of it, as the model has it, and what follows.
func TestModel(t *testing.T) {
	gone, whole, again := 0, 0, 0
	for _, p := range takenPrograms(t) {
		look := func(p api.Program) {
			if f := modelAll(t, p); f != ok {
				t.Fatalf("the test's program is refused: %s: %v", brief(p), f)
			}
			follows(t, p)
		}
		look(p)
		threaded, fused := answer(t, "P18.5: Thread", flow.Thread, p), answer(t, "P19.2: Fuse", fuse.Fuse, p)
		for _, q := range []api.Program{threaded, fused, answer(t, "P19.2: Fuse", fuse.Fuse, threaded)} {
			if !code.Equal(q, p) {
				look(q)
			}
		}
		if len(pruneOf(p).Code) < len(p.Code) {
			gone++
		} else {
			whole++
		}
		if _, rounds := optimiseOf(p); rounds > 1 {
			again++
		}
	}
	if gone < 1500 || whole < 500 || again < 500 {
		t.Errorf("only of %d something goes, of %d nothing, and %d change in a second round", gone, whole, again)
	}
}

// P20.2 to P20.6: programs that look like chance; the instruction at fault is thrown again and again, so that ever more of them are taken.
func TestChanceMended(t *testing.T) {
	d := dice(32)
	taken := 0
	for n := range 1500 {
		p := d.program(n%2 == 0, 2+d.below(14), 1+d.below(3))
		for range 60 {
			f := modelAll(t, p)
			if f == ok {
				taken++
				follows(t, p)
				p = d.change(p)
				mend(p)
				continue
			}
			at := f.At
			if f.Err != api.ErrCode || d.below(8) == 0 {
				at = d.below(len(p.Code))
			}
			p = cloned(p)
			p.Code[at] = d.instr(p.Encodes, len(p.Code), len(p.Entry))
			mend(p)
		}
	}
	if taken < 1000 {
		t.Errorf("only %d were taken", taken)
	}
}

// answer: what a call answers, which must be without a fault.
func answer(t *testing.T, name string, call func(api.Program) (api.Program, api.Fault), p api.Program) api.Program {
	t.Helper()
	q, f := call(p)
	if f != ok {
		t.Fatalf("%s(%s): %v", name, brief(p), f)
	}
	return q
}

// follows holds a program that is taken against what follows, by what the calls answer alone.
func follows(t *testing.T, p api.Program) {
	t.Helper()
	pruned, best := answer(t, "P20.2: Prune", prune.Prune, p), answer(t, "P20.3: Optimise", prune.Optimise, p)
	for name, q := range map[string]api.Program{"Prune": pruned, "Optimise": best} {
		if f := sound.Verify(q); f != ok {
			t.Errorf("P20.4: Verify of %s(%s) = %v", name, brief(p), f)
		}
		if len(q.Entry) != len(p.Entry) || len(q.Code) > len(p.Code) || q.Encodes != p.Encodes {
			t.Errorf("P20.4: %s(%s) = %s", name, brief(p), brief(q))
		}
		sameWay(t, name, p, q)
	}
	if (len(pruned.Code) == len(p.Code)) != code.Equal(pruned, p) {
		t.Errorf("P20.2: Prune(%s) = %s: nothing goes, but it is another one", brief(p), brief(pruned))
	}
	unchanged(t, "P20.5: Prune of Prune", prune.Prune, pruned)
	unchanged(t, "P20.5: Optimise of Optimise", prune.Optimise, best)
	unchanged(t, "P20.3: Thread of Optimise", flow.Thread, best)
	unchanged(t, "P20.3: Fuse of Optimise", fuse.Fuse, best)
	unchanged(t, "P20.3: Prune of Optimise", prune.Prune, best)
	allReached(t, "Prune", p, pruned)
	allReached(t, "Optimise", p, best)
}

// unchanged: a call answers what it is handed.
func unchanged(t *testing.T, name string, call func(api.Program) (api.Program, api.Fault), p api.Program) {
	t.Helper()
	if q := answer(t, name, call, p); !code.Equal(p, q) {
		t.Errorf("%s: of %s %s", name, brief(p), brief(q))
	}
}

// allReached: nothing is left that no entry leads to.
func allReached(t *testing.T, name string, p, q api.Program) {
	t.Helper()
	l, f := flow.Reach(q)
	if f != ok {
		t.Fatalf("P18.3: Reach of %s(%s): %v", name, brief(p), f)
	}
	for at, is := range l {
		if !is {
			t.Errorf("P20.2: %s(%s) = %s: %d is not reached", name, brief(p), brief(q), at)
		}
	}
}

// spot: a place in a program: an instruction, and how many of its fields are done.
type spot struct{ at, field int }

// does: what is done at a spot, one field of several as if it stood alone, the target aside; and the spot behind it.
func does(p api.Program, s spot) (api.Instr, spot) {
	i := p.Code[s.at]
	if l, w := fieldList(i); len(l) > 1 {
		one := api.Instr{Op: i.Op - 1, A: l[s.field], B: w}
		if s.field+1 < len(l) {
			return one, spot{s.at, s.field + 1}
		}
		return one, spot{at: s.at + 1}
	}
	if targeted(i.Op) {
		i.B = 0
	}
	return i, spot{at: s.at + 1}
}

// behindJumps: the first spot that is no jump's, and how many jumps lead there.
func behindJumps(p api.Program, s spot) (to spot, jumps int) {
	for ; p.Code[s.at].Op == 19; jumps++ {
		if jumps > len(p.Code) {
			panic("what is reached goes round")
		}
		s = spot{at: p.Code[s.at].B}
	}
	return s, jumps
}

// sameWay: P20.6: all pairs of spots to which two walks come that take the same ways do the same, jumps aside; and the second one's never takes a step where the first one's takes none.
func sameWay(t *testing.T, name string, p, q api.Program) {
	t.Helper()
	met := map[[2]spot]bool{}
	var work [][2]spot
	come := func(a, b spot) {
		t.Helper()
		a, more := behindJumps(p, a)
		b, fewer := behindJumps(q, b)
		if fewer > more || a.field > 0 && b.field == 0 {
			t.Fatalf("P20.6: in %s one comes to %v by %d jumps, but in %s of it to %v by %d", brief(p), a, more, name, b, fewer)
		}
		if pair := [2]spot{a, b}; !met[pair] {
			met[pair] = true
			work = append(work, pair)
		}
	}
	for k := range p.Entry {
		come(spot{at: p.Entry[k]}, spot{at: q.Entry[k]})
	}
	for len(work) > 0 {
		a, b := work[0][0], work[0][1]
		work = work[1:]
		i, next := does(p, a)
		j, other := does(q, b)
		if i != j {
			t.Fatalf("P20.6: in %s one comes to %v, but in %s of it to %v", brief(p), a, name, b)
		}
		switch nameOf(i.Op) {
		case "ret":
			continue
		case "union", "choice":
			for k := range i.A {
				arm, same := p.Code[a.at+1+k], q.Code[b.at+1+k]
				if arm.Op != 9 || same.Op != 9 || arm.A != same.A {
					t.Fatalf("P20.6: in %s of %s the arm %d of %d is another one", name, brief(p), k, b.at)
				}
				come(spot{at: arm.B}, spot{at: same.B})
			}
			continue
		}
		if targeted(i.Op) {
			come(spot{at: p.Code[a.at].B}, spot{at: q.Code[b.at].B})
		}
		come(next, other)
	}
}
