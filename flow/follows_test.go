package flow_test

import (
	"slices"
	"strconv"
	"strings"
	"testing"

	"mortise/api"
	"mortise/code"
	"mortise/flow"
	"mortise/lower"
	"mortise/raise"
	"mortise/sound"
	"mortise/syntax"
	"mortise/types"
)

// schemaTexts: every kind of type, by itself and within others.
func schemaTexts() []string {
	out := []string{
		"", "type a=u8;", "type a=bool; type b=varint; type c=u64;", "type a=vector<u8,3>;", "type a=vector<varint,3>;", "type a=list<u16,9>;", "type a=list<varint,9>;",
		"type a=option<u32>;", "type a=option<list<u8,5>>;", "type a=union{7:u8};", "type a=union{0:u8,9:varint,255:bool};", "type a=struct{x:u8,y:u8,z:u16};",
		"type a=struct{a:u8,b:list<u16,9>,c:u8};", "type p=struct{id:u32,name:list<u8,20>,ok:bool};", "type l=list<list<u16,9>,3>;", "type l=list<option<u8>,2>;",
		"type u=union{3:u16,200:option<varint>};", "type p=struct{x:u16,y:list<bool,3>}; type a=list<p,9>; type b=option<p>; type c=union{0:p,1:a,2:p};",
		"type t=struct{id:u32,at:u64}; type log=list<t,100>; type msg=union{1:t,2:log,3:vector<list<t,2>,4>,4:struct{a:option<t>,b:u8,c:vector<u8,16>}};",
	}
	arms := make([]string, api.MaxArms)
	for tag := range arms {
		arms[tag] = strconv.Itoa(255-tag) + ":u8"
	}
	return append(out, "type a=union{"+strings.Join(arms, ",")+"};")
}

// built: both programs of a schema's text.
func built(t *testing.T, text string) []api.Program {
	t.Helper()
	source, f := syntax.Parse(text)
	if f != ok {
		t.Fatalf("P6.2: Parse(%q) = %v", text, f)
	}
	s, f := types.Build(source)
	if f != ok {
		t.Fatalf("P9.2: Build of %q: %v", text, f)
	}
	d, e := lower.Decoder(s)
	if e != api.OK {
		t.Fatalf("P16.2: Decoder of %q: %d", text, e)
	}
	p, e := raise.Encoder(s)
	if e != api.OK {
		t.Fatalf("P17.2: Encoder of %q: %d", text, e)
	}
	return []api.Program{d, p}
}

// takenPrograms: such as compilers lay, such with jumps between and litter behind, and such as look like chance.
func takenPrograms(t *testing.T) (out []api.Program) {
	out = []api.Program{{}, {Encodes: true}, everything(false), everything(true), written(false, lists)}
	d := dice(31)
	for _, text := range schemaTexts() {
		for _, p := range built(t, text) {
			out = append(out, p)
			if len(p.Entry) > 0 {
				p = d.detour(d.detour(d.detour(p)))
				out = append(out, p, d.litter(p, 20))
			}
		}
	}
	for n := range 400 {
		p := d.laidOut(n%2 == 0, 1+d.below(6))
		out = append(out, p)
		for range 5 {
			if q := d.change(p); sound.Verify(q) == ok {
				out = append(out, q)
			}
		}
	}
	return out
}

// P18.2 to P18.5: each of them as the model has it.
func TestModel(t *testing.T) {
	unreached, shorter := 0, 0
	for _, p := range takenPrograms(t) {
		if f := modelAll(t, p); f != ok {
			t.Fatalf("the test's program is refused: %s: %v", brief(p), f)
		}
		if slices.Contains(reachedOf(p), false) {
			unreached++
		}
		if !code.Equal(threadOf(p), p) {
			shorter++
		}
	}
	if unreached < 100 || shorter < 100 {
		t.Errorf("only %d have what is not reached, and of %d Thread makes others", unreached, shorter)
	}
}

// P18.2 to P18.5: programs that look like chance; the instruction at fault is thrown again and again, so that ever more of them are taken.
func TestChanceMended(t *testing.T) {
	d := dice(32)
	taken := 0
	for n := range 600 {
		p := d.program(n%2 == 0, 2+d.below(14), 1+d.below(3))
		for range 60 {
			f := modelAll(t, p)
			if f == ok {
				taken++
				follows(t, p)
				p = d.change(p)
				mend(p)
				continue
			}
			at := f.At
			if f.Err != api.ErrCode || d.below(8) == 0 {
				at = d.below(len(p.Code))
			}
			p = cloned(p)
			p.Code[at] = d.instr(p.Encodes, len(p.Code), len(p.Entry))
			mend(p)
		}
	}
	if taken < 400 {
		t.Errorf("only %d were taken", taken)
	}
}

// asked: what the calls answer of a program that is taken.
type asked struct {
	targets  [][]int
	reached  []bool
	blocks   []int
	threaded api.Program
}

func ask(t *testing.T, p api.Program) (a asked) {
	t.Helper()
	for at := range p.Code {
		l, e := flow.Targets(p, at)
		if e != api.OK {
			t.Fatalf("P18.2: Targets(%s, %d): error %d", brief(p), at, e)
		}
		a.targets = append(a.targets, l)
	}
	var faults [3]api.Fault
	a.reached, faults[0] = flow.Reach(p)
	a.blocks, faults[1] = flow.Blocks(p)
	a.threaded, faults[2] = flow.Thread(p)
	if faults != [3]api.Fault{} || len(a.reached) != len(p.Code) {
		t.Fatalf("P18.3: of %s: %v, %d told", brief(p), faults, len(a.reached))
	}
	return a
}

// follows holds a program that is taken against what follows, by what the calls answer alone.
func follows(t *testing.T, p api.Program) {
	t.Helper()
	a := ask(t, p)
	closed(t, p, a)
	inBlocks(t, p, a)
	threaded(t, p, a.threaded)
	sameWay(t, p, a.threaded)
}

// P18.6, P18.7, P18.8: of all of them.
func TestFollows(t *testing.T) {
	for _, p := range takenPrograms(t) {
		follows(t, p)
	}
}

// closed: P18.6: what an entry leads to is reached, and only that.
func closed(t *testing.T, p api.Program, a asked) {
	t.Helper()
	led := make([]bool, len(p.Code))
	work := slices.Clone(p.Entry)
	for len(work) > 0 {
		at := work[0]
		work = work[1:]
		if !led[at] {
			led[at] = true
			work = append(work, a.targets[at]...)
		}
	}
	if !slices.Equal(led, a.reached) {
		t.Errorf("P18.6: of %s the entries lead to %v, but reached are %v", brief(p), led, a.reached)
	}
}

// inBlocks: P18.6: each reached instruction but a block's first has the one ahead as the only reached one that leads to it, and lies in the block of that.
func inBlocks(t *testing.T, p api.Program, a asked) {
	t.Helper()
	from := make([][]int, len(p.Code))
	for at, l := range a.targets {
		for _, to := range l {
			if a.reached[at] {
				from[to] = append(from[to], at)
			}
		}
	}
	if !slices.IsSorted(a.blocks) || len(slices.Compact(slices.Clone(a.blocks))) != len(a.blocks) {
		t.Errorf("P18.4: Blocks(%s) = %v: not rising", brief(p), a.blocks)
	}
	block := -1
	for at := range p.Code {
		if slices.Contains(a.blocks, at) {
			block = at
			if !a.reached[at] {
				t.Errorf("P18.4: Blocks(%s) = %v: %d is not reached", brief(p), a.blocks, at)
			}
			continue
		}
		if !a.reached[at] {
			continue
		}
		if block < 0 || !slices.Equal(from[at], []int{at - 1}) || slices.Contains(p.Entry, at) {
			t.Errorf("P18.6: of %s the blocks are %v, but %d is come to from %v", brief(p), a.blocks, at, from[at])
		}
	}
}

// leadsRound: whether jumps never end from a target on.
func leadsRound(p api.Program, k int) bool {
	met := map[int]bool{}
	for p.Code[k].Op == 19 && !met[k] {
		met[k] = true
		k = p.Code[k].B
	}
	return p.Code[k].Op == 19
}

// threaded: P18.7.
func threaded(t *testing.T, p, q api.Program) {
	t.Helper()
	if f := sound.Verify(q); f != ok {
		t.Errorf("P18.7: Verify of Thread(%s) = %v", brief(p), f)
	}
	if again, f := flow.Thread(q); f != ok || !code.Equal(again, q) {
		t.Errorf("P18.7: Thread(%s) = %s, and again %s, %v", brief(p), brief(q), brief(again), f)
	}
	if len(q.Code) != len(p.Code) || len(q.Entry) != len(p.Entry) || q.Encodes != p.Encodes {
		t.Fatalf("P18.7: Thread(%s) = %s", brief(p), brief(q))
	}
	targets := slices.Clone(q.Entry)
	for at, i := range q.Code {
		was := p.Code[at]
		if targeted(i.Op) {
			targets = append(targets, i.B)
			was.B = i.B
		}
		if was != i {
			t.Errorf("P18.7: Thread(%s) = %s: other instructions", brief(p), brief(q))
		}
	}
	for _, to := range targets {
		if q.Code[to].Op == 19 && !leadsRound(q, to) {
			t.Errorf("P18.7: Thread(%s) = %s: a target is the jump %d", brief(p), brief(q), to)
		}
	}
}

// behindJumps: the first instruction that is no jump.
func behindJumps(p api.Program, at int) int {
	for n := 0; p.Code[at].Op == 19; n++ {
		if n > len(p.Code) {
			panic("what is reached goes round")
		}
		at = p.Code[at].B
	}
	return at
}

// sameWay: P18.8: all pairs of instructions to which two walks come that take the same ways.
func sameWay(t *testing.T, p, q api.Program) {
	t.Helper()
	met := map[[2]int]bool{}
	var work [][2]int
	come := func(a, b int) {
		pair := [2]int{behindJumps(p, a), behindJumps(q, b)}
		if !met[pair] {
			met[pair] = true
			work = append(work, pair)
		}
	}
	for k := range p.Entry {
		come(p.Entry[k], q.Entry[k])
	}
	for len(work) > 0 {
		a, b := work[0][0], work[0][1]
		work = work[1:]
		i, j := p.Code[a], q.Code[b]
		if targeted(i.Op) {
			i.B, j.B = 0, 0
		}
		if i != j || a != b {
			t.Fatalf("P18.8: in %s one comes to %d, but in %s to %d", brief(p), a, brief(q), b)
		}
		switch nameOf(i.Op) {
		case "ret":
			continue
		case "union", "choice":
			for k := range i.A {
				come(a+1+k, b+1+k)
			}
			continue
		}
		if targeted(i.Op) {
			come(p.Code[a].B, q.Code[b].B)
		}
		if nameOf(i.Op) != "arm" {
			come(a+1, b+1)
		}
	}
}
