package prune_test

import (
	"fmt"
	"slices"
	"strings"
	"testing"

	"mortise/api"
)

// head: a routine beside instructions that no entry leads to.
func head(encodes bool) string {
	if encodes {
		return "leb; ret; "
	}
	return "bool -1; ret; "
}

// cutOut: a text without what stands in brackets in it.
func cutOut(text string) string {
	var s strings.Builder
	for {
		before, rest, found := strings.Cut(text, "(")
		s.WriteString(before)
		if !found {
			return s.String()
		}
		_, text, _ = strings.Cut(rest, ")")
	}
}

// goes: of each text what stands in brackets goes, and all else stays; names of instructions lead where they led.
func goes(t *testing.T, encodes bool, texts ...string) {
	t.Helper()
	for _, text := range texts {
		p, want := written(encodes, strings.NewReplacer("(", "", ")", "").Replace(text)), written(encodes, cutOut(text))
		if f := modelAll(t, p); f != ok {
			t.Errorf("the test's program is refused: %s: %v", brief(p), f)
			continue
		}
		pruneIs(t, p, want)
		pruneIs(t, want, want)
		follows(t, p)
	}
}

// P20.2: programs in which all is reached: nothing goes.
func TestNothingGoes(t *testing.T) {
	for _, p := range []api.Program{{}, {Encodes: true}, whole(false), whole(true)} {
		pruneIs(t, p, p)
		optimiseIs(t, p, p)
		modelAll(t, p)
		follows(t, p)
	}
	for _, text := range schemaTexts() {
		for _, p := range built(t, text) {
			pruneIs(t, p, p)
			modelAll(t, p)
		}
	}
	goes(t, false, "bool -1; ret | 0", "jump 1; bool -1; ret | 0", "bool -1; ret; varint -1; ret | 2 0", "bool -1; a: ret; varint -1; jump a | 0 2")
	goes(t, true, "leb; ret | 0", "ret: ret; a: leb; jump ret | a", "leb; ret; flag 0; ret | 0 2 2 0")
}

// eachLine: every instruction, with its operands, numbers of instructions among them; a union or choice with its arms.
func eachLine(encodes bool) []string {
	if encodes {
		return []string{"number 0 1", "number -1 4", "numbers 2 2 4", "flag 1", "leb", "many 2", "upto 2", "fields 3", "maybe 1", "choice 1; arm 7 1", "choice 2; arm 7 0; arm 1 3", "arm 7 1", "room -1", "room 2", "slot 1", "enter 1 0", "each 2 0", "append 0", "again 1", "jump 1", "ret"}
	}
	return []string{"uint 0 1", "uint -1 4", "uints 1 2 4", "bool 1", "varint 2", "seq", "struct", "option 1", "union 1; arm 7 1", "union 2; arm 7 0; arm 1 3", "arm 7 1", "offset 4", "first 2 1", "slots 1", "item 2 1", "less 2 1", "parts 1", "call 1 0", "part 2 1 0", "tail 1", "jump 1", "ret"}
}

// P20.2: every instruction goes, if it isn't reached: at the beginning, in the middle, at the end, everywhere, once and thrice.
func TestEachGoes(t *testing.T) {
	for _, encodes := range []bool{false, true} {
		one := "a: " + head(encodes)
		two := "b: " + head(encodes)
		for _, line := range eachLine(encodes) {
			for _, line := range []string{"(" + line + ";) ", "(" + line + "; " + line + "; " + line + ";) "} {
				goes(t, encodes,
					line+one+two+"| a b", one+line+two+"| a b", one+two+line+"| a b",
					line+one+line+two+"| b a", line+one+two+line+"| b b a", one+line+two+line+"| a b", line+one+line+two+line+"| a b",
				)
			}
		}
	}
}

// P20.2: a row of what isn't reached, laid into each gap of a program with every instruction, and into each two of them: every target and entry goes where it went, whether it lies ahead of it, at it or behind it.
func TestEachGap(t *testing.T) {
	for _, encodes := range []bool{false, true} {
		p := whole(encodes)
		lines := eachLine(encodes)
		row := written(encodes, strings.Join(lines, "; ")).Code
		l := gaps(p)
		if len(l) < 10 {
			t.Fatalf("only the gaps %v", l)
		}
		for n, at := range l {
			for _, many := range []int{1, 2, len(row)} {
				q := laidIn(p, at, row[len(row)-many:]...)
				pruneIs(t, q, p)
				optimiseIs(t, q, p)
				for _, more := range l[:n+1] {
					r := laidIn(q, more, row[len(row)-many:]...)
					pruneIs(t, r, p)
					optimiseIs(t, r, p)
				}
				follows(t, q)
			}
		}
	}
}

// P20.2: the target of each instruction that has one lies ahead of what goes, right behind it, behind several that go, and on this side of it.
func TestTargetsOfDecoder(t *testing.T) {
	goes(t, false,
		"(seq;) o: option r; bool 0; r: ret | o",
		"o: option r; bool 0; r: ret; (seq;) | o",
		"o: option r; bool 0; jump r; (seq; seq;) r: ret | o",
		"o: option r; bool 0; jump e; (seq;) e: jump r; (struct;) r: ret | o",
		"r: ret; (seq;) o: option r; bool 0; ret | o",
		"(ret;) r: ret; (seq;) o: option r; bool 0; ret; (seq;) | o",

		"(ret;) l: seq; a: item 9 r; bool -1; jump a; r: ret | l",
		"l: seq; a: item 9 r; bool -1; jump a; (ret;) r: ret; (ret;) | l",
		"(seq;) r: ret; (ret;) l: seq; a: item 9 r; bool -1; jump a; (ret;) | l",
		"l: seq; jump a; (ret;) r: ret; (ret;) b: bool -1; jump a; (ret;) a: item 9 r; jump b | l",

		"(ret;) l: seq; a: bool -1; less 3 a; ret; (ret;) | l",
		"l: seq; a: bool -1; jump c; (ret; ret;) c: less 3 a; ret; (ret;) | l",
		"l: seq; jump a; (ret;) c: less 3 a; ret; (ret;) a: bool -1; jump c | l",
		"l: seq; a: bool -1; less 3 b; ret; (ret;) b: jump a | l",
	)
	// The routine of a list of variable items has first, slots and parts.
	goes(t, false,
		"f: varint -1; ret; (ret;) l: seq; first 9 r; jump s; a: offset 4; s: slots a; jump p; b: part -1 -1 0; tail -1; p: parts b; r: ret | f l",
		"f: varint -1; ret; l: seq; first 9 r; jump s; (seq;) a: offset 4; s: slots a; jump p; (ret; ret;) b: part -1 -1 0; tail -1; p: parts b; r: ret; (seq;) | f l",
		"f: varint -1; r: ret; (seq;) l: seq; first 9 r; jump s; (ret;) a: offset 4; jump s; (ret;) s: slots a; jump p; (ret;) b: part -1 -1 0; tail -1; jump p; (ret;) p: parts b; ret | f l",
		"f: varint -1; ret; l: seq; first 9 r; s: slots a; jump p; (ret;) a: offset 4; jump s; (ret;) p: parts b; jump r; (ret;) b: part -1 -1 0; tail -1; jump p; (ret;) r: ret | f l",
	)
}

func TestTargetsOfEncoder(t *testing.T) {
	goes(t, true,
		"(ret;) m: maybe r; leb; r: ret | m",
		"m: maybe r; leb; r: ret; (ret;) | m",
		"m: maybe r; leb; jump r; (ret; ret;) r: ret | m",
		"m: maybe r; leb; jump e; (ret;) e: jump r; (leb;) r: ret | m",
		"r: ret; (ret;) m: maybe r; leb; ret | m",
		"(leb;) r: ret; (ret;) m: maybe r; leb; ret; (leb;) | m",

		"(ret;) n: many 3; a: number -1 1; again a; ret; (ret;) | n",
		"n: many 3; a: number -1 1; jump g; (ret; ret;) g: again a; ret | n",
		"n: many 3; jump a; (ret;) g: again a; ret; (ret;) a: number -1 1; jump g; (ret;) | n",
		"n: many 3; a: flag -1; again b; ret; (ret;) b: jump a | n",
		"n: upto 3; jump g; (ret;) a: flag -1; g: again a; ret | n",
		"(ret;) n: upto 3; jump g; a: flag -1; jump g; (ret;) g: again a; ret | n",
	)
}

// P20.2: jumps that are left alone between what goes, to what lies ahead and behind, and round about.
func TestJumpLeft(t *testing.T) {
	for _, encodes := range []bool{false, true} {
		leaf := "bool -1"
		if encodes {
			leaf = "leb"
		}
		gone := "(ret; jump 0; ret;) "
		goes(t, encodes,
			gone+"j: jump a; "+gone+"a: "+leaf+"; ret | j",
			gone+"a: "+leaf+"; ret; "+gone+"j: jump a; "+gone+"| j",
			"j: jump a; "+gone+"c: jump d; (ret;) b: jump c; (ret; ret;) a: jump b; "+gone+"d: "+leaf+"; jump e; "+gone+"e: ret | j",
			"(ret;) b: jump c; (ret;) a: jump b; (ret;) c: jump d; (ret;) d: "+leaf+"; jump r; (jump c;) r: ret | a c",
		)
	}
}

// bodies: a union or choice of so many arms, each with a body of its own, those that none leads to in brackets.
func bodies(encodes bool, arms int, to func(arm int) int) string {
	name, leaf := "union", "bool 0"
	if encodes {
		name, leaf = "choice", "leb"
	}
	var s strings.Builder
	led := make([]bool, arms)
	fmt.Fprintf(&s, "(ret;) u: %s %d; ", name, arms)
	for arm := range arms {
		fmt.Fprintf(&s, "arm %d x%d; ", 255-arm, to(arm))
		led[to(arm)] = true
	}
	s.WriteString("(ret;) ")
	for arm, is := range led {
		body := fmt.Sprintf("x%d: %s; ret; ", arm, leaf)
		if !is {
			body = fmt.Sprintf("(%s; ret;) ", leaf)
		}
		s.WriteString(body)
	}
	return s.String() + "(ret;) | u"
}

// P20.2: the arms of a union that is reached stay, wherever they lead; a body to which none leads goes.
func TestArmsStay(t *testing.T) {
	for _, encodes := range []bool{false, true} {
		for _, arms := range []int{1, 2, 3, 5, 63, 64} {
			for _, to := range []func(arm int) int{
				func(arm int) int { return arm },
				func(arm int) int { return arms - 1 - arm },
				func(arm int) int { return 0 },
				func(arm int) int { return arms - 1 },
				func(arm int) int { return arm / 2 * 2 },
				func(arm int) int { return arms / 2 },
			} {
				goes(t, encodes, bodies(encodes, arms, to))
			}
		}
	}
}

// P20.2: a union or choice that isn't reached goes with its arms and what stands behind them; what others lead to stays. So does an arm that belongs to none go.
func TestArmsGo(t *testing.T) {
	goes(t, false,
		"(union 2; arm 0 x; arm 9 y; x: bool 0; ret; y: varint 0; ret;) a: bool -1; ret | a",
		"a: bool -1; ret; (union 2; arm 0 x; arm 9 y; x: bool 0; ret; y: varint 0; ret;) | a",
		"a: bool -1; ret; (union 2; arm 0 x; arm 9 y; x: bool 0; ret; y: varint 0; ret;) b: varint -1; ret | a b",
		"(union 2; arm 0 x; arm 9 r; x: bool 0;) r: ret; a: bool -1; jump r | a",
		"u: union 2; arm 0 x; arm 9 y; (arm 3 0;) x: bool 0; ret; (union 1; arm 9 0;) y: varint 0; ret | u",
		"u: union 2; arm 0 x; arm 9 x; (union 1; arm 9 4; bool 0; jump 0;) x: varint 0; ret | u",
		"(arm 0 x; x: bool 0; ret;) a: bool -1; ret; (arm 9 0; varint 0; ret;) | a",
		"u: union 1; arm 0 x; (arm 0 0; arm 1 1; bool 0; ret;) x: bool 0; ret | u",
	)
	goes(t, true,
		"(choice 2; arm 0 x; arm 9 y; x: leb; ret; y: flag 1; ret;) a: leb; ret | a",
		"a: leb; ret; (choice 2; arm 0 x; arm 9 y; x: leb; ret; y: flag 1; ret;) | a",
		"a: leb; ret; (choice 2; arm 0 x; arm 9 y; x: leb; ret; y: flag 1; ret;) b: flag 0; ret | a b",
		"(choice 2; arm 0 x; arm 9 r; x: leb;) r: ret; a: leb; jump r | a",
		"u: choice 2; arm 0 x; arm 9 y; (arm 3 0;) x: leb; ret; (choice 1; arm 9 0;) y: flag 1; ret | u",
		"(arm 0 x; x: leb; ret;) a: leb; ret; (arm 9 0; leb; ret;) | a",
	)
	// An arm of a union that isn't reached leads into what is: that stays alone.
	goes(t, false, "(union 1; arm 9 x; ret; union 2; arm 0 x; arm 1 0;) u: union 1; arm 7 x; (arm 9 x;) x: bool 0; ret | u")
}

// P20.2: entries ahead of what goes, behind it and between; several at one instruction, in any order.
func TestEntries(t *testing.T) {
	for _, encodes := range []bool{false, true} {
		routine := ": " + head(encodes)
		text := "(ret;) a" + routine + "(ret; jump 0;) b" + routine + "c" + routine + "(ret;) "
		for _, entries := range []string{"a b c", "c b a", "b c a", "a b b c", "c c b a a", "a b c a b c"} {
			goes(t, encodes, text+"| "+entries)
		}
		// All but those of one entry go.
		for _, only := range []string{"a", "b", "c"} {
			text := ""
			for _, name := range []string{"a", "b", "c"} {
				if name == only {
					text += name + routine
				} else {
					text += "(" + head(encodes) + ") "
				}
			}
			for many := 1; many < 5; many++ {
				goes(t, encodes, text+"| "+strings.Repeat(only+" ", many))
			}
		}
	}
	// Entries in the midst of what was a routine: what stands ahead of them goes.
	goes(t, true,
		"(fields 2; number 0 1;) a: number 1 1; ret | a",
		"(maybe 2;) a: leb; r: ret; (ret;) b: maybe r; append 0; ret | a b",
		"(fields 2;) a: number 0 1; ret; (ret;) b: fields 2; leb; jump a; (ret;) | a b a",
	)
	goes(t, false,
		"(seq; jump 2;) a: bool -1; ret | a",
		"(seq; jump a;) a: bool -1; r: ret; (ret;) b: varint -1; jump r | b a b",
	)
}

// P20.2: of programs with every instruction all but the routine of one type, which calls no other, goes.
func TestOneTypeStays(t *testing.T) {
	taken := 0
	for _, p := range []api.Program{whole(false), whole(true), everything(false), everything(true)} {
		for k := range p.Entry {
			q := cloned(p)
			q.Entry = slices.Repeat([]int{p.Entry[k]}, len(p.Entry))
			if modelAll(t, q) == ok {
				taken++
				follows(t, q)
			}
		}
	}
	if taken < 12 {
		t.Errorf("only %d were taken", taken)
	}
}

// P20.2: a program without types has nothing that is reached, whatever it has; whether it encodes stays.
func TestNoTypes(t *testing.T) {
	for _, encodes := range []bool{false, true} {
		for _, line := range eachLine(encodes) {
			if strings.Contains(line, "call") || strings.Contains(line, "part ") || strings.Contains(line, "enter") || strings.Contains(line, "each") || strings.Contains(line, "append") {
				continue
			}
			p := written(encodes, "ret; ret; "+line+"; ret")
			pruneIs(t, p, api.Program{Encodes: encodes})
			optimiseIs(t, p, api.Program{Encodes: encodes})
			follows(t, p)
		}
	}
}
