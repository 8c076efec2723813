package flow_test

import (
	"math"
	"slices"
	"strconv"
	"strings"
	"testing"

	"mortise/api"
	"mortise/code"
	"mortise/flow"
	"mortise/sound"
)

// head: a routine ahead of instructions that no entry leads to, with the number of the first of these.
func head(encodes bool) (text string, from int) {
	if encodes {
		return "leb; ret; ", 2
	}
	return "bool -1; ret; ", 2
}

// P18.2: every instruction, in code that no entry leads to: where it stands in the midst, and where it is the last.
func TestEachInstruction(t *testing.T) {
	decoder := map[string]string{
		"uint 0 1": "3", "uint -1 8": "3", "uints 0 2 4": "3", "bool -1": "3", "varint 5": "3", "seq": "3", "struct": "3",
		"option 5": "3 5", "arm 7 5": "5", "offset 4": "3", "first 9 5": "3 5", "slots 5": "3 5", "item 1 5": "3 5",
		"less 2 5": "3 5", "parts 5": "3 5", "call -1 0": "3", "part 0 0 0": "3", "part -1 -1 0": "3", "tail -1": "3", "tail 6": "3", "jump 5": "5", "ret": "",
	}
	encoder := map[string]string{
		"number 0 1": "3", "number -1 4": "3", "numbers 0 2 4": "3", "flag 3": "3", "leb": "3", "many 2": "3", "upto 2": "3", "fields 5": "3",
		"maybe 5": "3 5", "room -1": "3", "room 5": "3", "slot 5": "3", "enter 5 0": "3", "each 5 0": "3", "append 0": "3", "again 5": "3 5", "arm 9 5": "5", "jump 5": "5", "ret": "",
	}
	met := map[int]bool{}
	for k, rows := range []map[string]string{decoder, encoder} {
		encodes := k == 1
		text, from := head(encodes)
		for line, want := range rows {
			p := written(encodes, text+line+"; ret; ret; ret | 0")
			targetsAre(t, p, from, numbersOf(want)...)
			modelAll(t, p)
			met[p.Code[from].Op] = true
			// As the last one it has no next instruction; its target is another one then.
			p = written(encodes, text+"ret; ret; ret; ret | 0")
			p.Code[5] = written(encodes, line).Code[0]
			want := strings.ReplaceAll(want, "3", "")
			targetsAre(t, p, 5, numbersOf(want)...)
			modelAll(t, p)
		}
	}
	for _, r := range slices.Concat(tables[0], tables[1]) {
		if r.name != "union" && r.name != "choice" && !met[r.op] {
			t.Errorf("the test has no %s", r.name)
		}
	}
}

// P18.2: a target that is the next instruction is told once; one ahead, and the instruction itself, stand in their order.
func TestSameTwice(t *testing.T) {
	for _, encodes := range []bool{false, true} {
		names := []string{"option", "first 9", "slots", "item 9", "less 9", "parts"}
		if encodes {
			names = []string{"maybe", "again"}
		}
		text, from := head(encodes)
		for _, name := range names {
			for to := range 6 {
				p := written(encodes, text+name+" "+strconv.Itoa(to)+"; ret; ret; ret | 0")
				switch {
				case to < 3:
					targetsAre(t, p, from, to, 3)
				case to == 3:
					targetsAre(t, p, from, 3)
				default:
					targetsAre(t, p, from, 3, to)
				}
				modelAll(t, p)
			}
		}
		for _, name := range []string{"jump", "arm 3"} {
			for to := range 6 {
				p := written(encodes, text+name+" "+strconv.Itoa(to)+"; ret; ret; ret | 0")
				targetsAre(t, p, from, to)
				modelAll(t, p)
			}
		}
	}
}

// chosen: a routine of a union or choice of so many arms, each of which leads to what the function says.
func chosen(encodes bool, arms int, to func(arm int) int) api.Program {
	p := api.Program{Encodes: encodes, Entry: []int{0}, Code: []api.Instr{{Op: 8, A: arms}}}
	if encodes {
		p.Code[0].Op = 41
	}
	for arm := range arms {
		p.Code = append(p.Code, api.Instr{Op: 9, A: 255 - arm, B: to(arm)})
	}
	for range arms {
		read := api.Instr{Op: 3}
		if encodes {
			read = api.Instr{Op: 36}
		}
		p.Code = append(p.Code, read, api.Instr{Op: 20})
	}
	return p
}

// P18.2: unions and choices of one arm, of few and of the most; the arms lead on in their order, backward, or all to one.
func TestArms(t *testing.T) {
	for _, encodes := range []bool{false, true} {
		for _, arms := range []int{1, 2, 3, 5, 63, 64} {
			for _, to := range []func(arm int) int{
				func(arm int) int { return 1 + arms + 2*arm },
				func(arm int) int { return 1 + arms + 2*(arms-1-arm) },
				func(arm int) int { return 1 + arms },
			} {
				p := chosen(encodes, arms, to)
				var all []int
				for arm := range arms {
					all = append(all, 1+arm)
					targetsAre(t, p, 1+arm, to(arm))
				}
				targetsAre(t, p, 0, all...)
				if modelAll(t, p) != ok {
					t.Errorf("the test's program is refused: %s", brief(p))
				}
				// As the last instructions, where none leads to them.
				text, from := head(encodes)
				q := written(encodes, text+"| 0")
				q.Code = append(q.Code, p.Code[:1+arms]...)
				for at := from + 1; at < len(q.Code); at++ {
					q.Code[at].B = at - from
				}
				for at := range all {
					all[at] += from
				}
				targetsAre(t, q, from, all...)
				modelAll(t, q)
			}
		}
	}
}

// P18.2: the last number is an instruction's, the one behind is none's, nor is any beyond.
func TestNumbers(t *testing.T) {
	for _, p := range []api.Program{written(false, lists), everything(false), everything(true), written(true, "leb; ret | 0")} {
		last := len(p.Code) - 1
		targetsAre(t, p, 0, successorsOf(p, 0)...)
		targetsAre(t, p, last, successorsOf(p, last)...)
		for _, at := range []int{-1, -2, last + 1, last + 2, api.MaxCode, api.MaxNumber, math.MinInt, math.MaxInt, -1 << 32, 1 << 32} {
			nowhere(t, p, at)
		}
	}
	for _, p := range []api.Program{{}, {Encodes: true}, {Code: []api.Instr{}, Entry: []int{}}} {
		for _, at := range []int{-1, 0, 1, math.MinInt, math.MaxInt} {
			nowhere(t, p, at)
		}
		modelAll(t, p)
	}
}

// P18.2 to P18.5: a program that sound.Verify doesn't take has its fault, whatever the number.
func TestFaults(t *testing.T) {
	rows := []struct {
		p    api.Program
		want api.Fault
	}{
		{written(false, "ret | 0"), bad(0)},
		{written(true, "ret | 0"), bad(0)},
		{written(false, "bool -1; ret; bool -1; bool -1; ret | 0 2"), bad(3)},
		{written(false, "bool -1 | 0"), bad(0)},
		{written(false, "jump 0 | 0"), bad(0)},
		{written(true, "jump 1; jump 0 | 1"), bad(0)},
		{written(false, "seq; item 3 3; jump 1; ret | 0"), bad(1)},
		{written(false, "call -1 0; ret | 0"), bad(0)},
		{written(false, "arm 0 1; bool -1; ret | 0"), bad(0)},
		{written(true, "fields 2; number 0 1; ret | 0"), bad(2)},
		{written(false, "bool -1; ret; jump 3 | 0"), api.Fault{Err: api.ErrOp, At: 2}},
		{written(false, "bool -1; ret; option -1 | 0"), api.Fault{Err: api.ErrOp, At: 2}},
		{written(false, "bool -1; ret; union 2; arm 0 0 | 0"), api.Fault{Err: api.ErrOp, At: 2}},
		{api.Program{Code: []api.Instr{{Op: 1, A: -1, B: 1}, {Op: 99}}, Entry: []int{0}}, api.Fault{Err: api.ErrOp, At: 1}},
		{api.Program{Code: []api.Instr{{Op: 99}}}, api.Fault{Err: api.ErrOp}},
		{api.Program{Encodes: true, Code: []api.Instr{{Op: 1, A: -1, B: 1}, {Op: 20}}, Entry: []int{0}}, api.Fault{Err: api.ErrOp}},
		{written(false, "bool -1; ret | 0 2"), api.Fault{Err: api.ErrPlace, At: 1}},
		{written(false, "bool -1; ret | -1"), api.Fault{Err: api.ErrPlace}},
		{api.Program{Entry: []int{0}}, api.Fault{Err: api.ErrPlace}},
		{api.Program{Code: slices.Repeat([]api.Instr{{Op: 20}}, api.MaxCode+1)}, api.Fault{Err: api.ErrLong}},
		{api.Program{Code: []api.Instr{{Op: 3, A: -1}, {Op: 20}}, Entry: make([]int, api.MaxCode+1)}, api.Fault{Err: api.ErrLong}},
	}
	for _, r := range rows {
		if f := sound.Verify(r.p); f != r.want {
			t.Errorf("the test's program: %s: Verify %v, want %v", brief(r.p), f, r.want)
		}
		faultIs(t, r.p, r.want)
		for _, at := range []int{-1, 0, 1, 2, 99, math.MinInt, math.MaxInt} {
			if l, e := flow.Targets(r.p, at); e != r.want.Err || l != nil {
				t.Errorf("P18.2: Targets(%s, %d) = %v, %d, want error %d", brief(r.p), at, l, e, r.want.Err)
			}
		}
	}
}

// P18.3 to P18.5: programs without instructions, or without entries.
func TestNothing(t *testing.T) {
	for _, encodes := range []bool{false, true} {
		none := api.Program{Encodes: encodes}
		reachIs(t, none)
		blocksAre(t, none)
		threadIs(t, none, none)
		p := written(encodes, "jump 2; ret; jump 1; jump 3")
		reachIs(t, p)
		blocksAre(t, p)
		threadIs(t, p, written(encodes, "jump 1; ret; jump 1; jump 3"))
		targetsAre(t, p, 0, 2)
		if q, _ := flow.Thread(p); !code.Equal(q, threadOf(p)) || len(q.Entry) != 0 || q.Encodes != encodes {
			t.Errorf("P18.5: Thread(%s) = %s", brief(p), brief(q))
		}
		modelAll(t, p)
	}
}
