package sound_test

import (
	"strings"
	"testing"

	"mortise/api"
	"mortise/sound"
)

// wanting: an instruction (@ is its target), and in which states it can stand, each with what it hands to the next instruction / to the target. * is a state that has no name here.
type wanting struct {
	text   string
	states string
}

// decoderStates: how each one is come to. S and M are seq with a table of 0 and of many, T struct with its kids, its table and its parts, O one; a, n, k, s, p: what is free.
var decoderStates = map[string]string{
	"E": "", "F": "uint -1 1;", "O": "union 1; arm 0 x;",
	"Sa": "seq;", "Sn": "seq; uint -1 1;", "Sk": "seq; less 9 x; ret;",
	"Mn": "seq; offset 4;", "Mk": "seq; offset 4; less 9 x; ret;", "Ms": "seq; offset 4; slots x; ret;", "Mp": "seq; offset 4; parts x; ret;",
	"T": "struct;", "T0": "struct; uint 0 1;", "T1": "struct; uint 1 1;", "T01": "struct; uints 0 2 1;",
	"T.1": "struct; offset 4;", "T0.1": "struct; uint 0 1; offset 4;", "T0.1.1": "struct; offset 4; part 0 0 0;",
	"T0.2.1": "struct; offset 4; offset 4; part 0 0 0;", "T01.2.2": "struct; offset 4; offset 4; part 0 0 0; part 1 1 0;",
}

// decoderRows: the table of the decoder's states, row by row.
var decoderRows = []wanting{
	{"uint -1 1", "E>F Sa>Sn Sk>Sn Mk>Mn O>F"},
	{"bool -1", "E>F Sa>Sn Sk>Sn Mk>Mn O>F"},
	{"varint -1", "E>F Sa>Sn Sk>Sn Mk>Mn O>F"},
	{"uint 0 8", "O>F T>T0 T1>T01 T.1>T0.1"},
	{"bool 0", "O>F T>T0 T1>T01 T.1>T0.1"},
	{"varint 0", "O>F T>T0 T1>T01 T.1>T0.1"},
	{"uint 1 1", "T>T1 T0>T01 T.1>* T0.1>* T0.1.1>* T0.2.1>*"},
	{"bool 1", "T>T1 T0>T01 T.1>* T0.1>* T0.1.1>* T0.2.1>*"},
	{"varint 63", "T>* T0>* T1>* T01>* T.1>* T0.1>* T0.1.1>* T0.2.1>* T01.2.2>*"},
	{"uints 0 2 1", "T>T01 T.1>*"},
	{"uints 1 2 1", "T>* T0>* T.1>* T0.1>* T0.1.1>* T0.2.1>*"},
	{"uints 0 64 1", "T>* T.1>*"},
	{"seq", "E>Sa"},
	{"struct", "E>T"},
	{"option @", "E>O/F"},
	{"union 2; arm 0 @; arm 1 @", "E>/O"},
	{"offset 4", "T>T.1 T0>T0.1 T1>* T01>* T.1>* T0.1>* Sa>Mn Ms>Mn"},
	{"offset 4194304", "T>T.1 T0>T0.1 T1>* T01>* T.1>* T0.1>* Sa>Mn Ms>Mn"},
	{"offset 4194305", "T>T.1 T0>T0.1 T1>* T01>* T.1>* T0.1>* Ms>Mn"},
	{"first 9 @", "Sa>Mn/Sn Sn>Mn/Sn Sk>Mn/Sn"},
	{"slots @", "Mn>Mn/Ms Mk>Mn/Ms Ms>Mn/Ms Mp>Mn/Ms"},
	{"item 9 @", "Sa>Sk/Sn Sn>Sk/Sn Sk>Sk/Sn Mn>Mk/Mn Mk>Mk/Mn Ms>Mk/Mn Mp>Mk/Mn"},
	{"less 9 @", "Sa>Sn/Sk Sn>Sn/Sk Sk>Sn/Sk Mn>Mn/Mk Mk>Mn/Mk Ms>Mn/Mk Mp>Mn/Mk"},
	{"parts @", "Mn>Mn/Mp Mk>Mn/Mp Ms>Mn/Mp Mp>Mn/Mp"},
	{"call -1 0", "E>F Sa>Sn Sk>Sn Mk>Mn O>F"},
	{"call 0 0", "O>F T>T0 T1>T01 T.1>T0.1"},
	{"call 1 0", "T>T1 T0>T01 T.1>* T0.1>* T0.1.1>* T0.2.1>*"},
	{"call -1 1", ""}, {"call 0 1", ""}, {"call 1 2", ""},
	{"part 0 0 0", "T.1>T0.1.1"},
	{"part 1 0 0", "T.1>* T0.1>*"},
	{"part 1 1 0", "T0.2.1>T01.2.2"},
	{"part 0 0 1", ""}, {"part 1 1 2", ""},
	{"part -1 -1 0", "Mp>Mn"},
	{"part -1 -1 1", ""}, {"part -1 -1 2", ""},
	{"tail 0", "T0.1.1>T0.1.1 T0.2.1>T0.2.1 T01.2.2>T01.2.2"},
	{"tail 1", "T01.2.2>T01.2.2"},
	{"tail 2", ""},
	{"tail -1", "Mn>Mn Mk>Mn Ms>Mn Mp>Mn"},
	{"jump @", "E>/E F>/F O>/O Sa>/Sa Sn>/Sn Sk>/Sk Mn>/Mn Mk>/Mk Ms>/Ms Mp>/Mp T>/T T0>/T0 T1>/T1 T01>/T01 T.1>/T.1 T0.1>/T0.1 T0.1.1>/T0.1.1 T0.2.1>/T0.2.1 T01.2.2>/T01.2.2"},
	{"ret", "F> Sa> Sn> Sk> Mn> Mk> Ms> Mp> T0> T01> T0.1> T0.1.1> T0.2.1> T01.2.2>"},
	{"arm 3 @", ""},
}

// encoderStates: W wants, L0 to L3 left, Q and q seq, sure and not.
var encoderStates = map[string]string{"W": "", "L0": "leb;", "L1": "fields 1;", "L2": "fields 2;", "L3": "fields 3;", "Q": "many 9;", "q": "upto 9;"}

// encoderRows: the table of the encoder's states, row by row.
var encoderRows = []wanting{
	{"number 0 1", "W>L0 L1>L0 L2>L1 L3>L2"},
	{"number 5 8", "W>L0 L1>L0 L2>L1 L3>L2"},
	{"number -1 1", "Q>q"},
	{"flag 0", "W>L0 L1>L0 L2>L1 L3>L2"},
	{"flag -1", "Q>q"},
	{"numbers 0 2 1", "L2>L0 L3>L1"},
	{"numbers 0 3 1", "L3>L0"},
	{"numbers 0 4 1", ""},
	{"leb", "W>L0 L1>L0 L2>L1 L3>L2"},
	{"many 9", "W>Q"},
	{"upto 9", "W>q"},
	{"fields 1", "W>L1"}, {"fields 2", "W>L2"}, {"fields 3", "W>L3"},
	{"maybe @", "W>L1/L0"},
	{"choice 2; arm 0 @; arm 1 @", "W>/L1"},
	{"room -1", "Q>Q q>q"},
	{"room 4", "L0>L0 L1>L1 L2>L2 L3>L3 Q>Q q>q"},
	{"slot 0", "L0>L0 L1>L1 L2>L2 L3>L3"},
	{"slot -1", "Q>Q"},
	{"enter 0 0", "W>L0 L1>L0 L2>L1 L3>L2"},
	{"enter 0 1", ""}, {"enter 0 2", ""},
	{"each 5 0", "Q>q"},
	{"each 5 1", ""}, {"each 5 2", ""},
	{"append 0", "W>L0 L1>L0 L2>L1 L3>L2 Q>q"},
	{"append 1", ""}, {"append 2", ""},
	{"again @", "Q>L0/Q q>L0/Q"},
	{"jump @", "W>/W L0>/L0 L1>/L1 L2>/L2 L3>/L3 Q>/Q q>/q"},
	{"ret", "L0>"},
	{"arm 3 @", ""},
}

// handed: in which states an instruction can stand, and what it hands on: to the next one, to the target; none is "".
func (w wanting) handed() map[string][2]string {
	out := map[string][2]string{}
	for _, word := range strings.Fields(w.states) {
		state, behind, _ := strings.Cut(word, ">")
		next, target, _ := strings.Cut(behind, "/")
		out[state] = [2]string{next, target}
	}
	return out
}

// at: the instruction, with a mark as its target.
func (w wanting) at(mark string) string { return strings.ReplaceAll(w.text, "@", mark) }

// ending: code that is taken from a state on, for a way that isn't asked.
func ending(state, mark string) string {
	switch state {
	case "O":
		return mark + ": uint 0 1; ret;"
	case "L1":
		return mark + ": leb; ret;"
	case "Q":
		return mark + ": number -1 1; again " + mark + "; ret;"
	}
	return mark + ": ret;"
}

// around: the text as routine 1, ahead of the routines of two types that take something.
func around(encodes bool, text string) api.Program {
	one := "bool -1"
	if encodes {
		one = "leb"
	}
	p := written(encodes, text+"; t: "+one+"; ret; u: "+one+"; ret | t 0 u")
	return p
}

// probeIs: whether the instruction with the mark p is at fault, as all ahead of it is right.
func probeIs(t *testing.T, encodes bool, text string, stands bool) {
	t.Helper()
	before, _, _ := strings.Cut(text, "p: ")
	at := strings.Count(before, ";")
	p := around(encodes, text)
	if f := sound.Verify(p); (f == bad(at)) == stands {
		t.Errorf("P15.2: Verify(%s) = %v: can instruction %d stand? want %v", brief(p), f, at, stands)
	}
}

// rowsAre: every instruction in every state; then, behind each that can stand, every instruction in what it hands on.
func rowsAre(t *testing.T, encodes bool, states map[string]string, rows []wanting) (asked int) {
	for name, come := range states {
		come = strings.ReplaceAll(come, " x;", " p;")
		for _, r := range rows {
			_, stands := r.handed()[name]
			probeIs(t, encodes, come+"p: "+r.at("z")+"; ret; z: ret", stands)
			asked++
		}
	}
	for _, first := range rows {
		for name, behind := range first.handed() {
			for _, r := range rows {
				handed := r.handed()
				if next := behind[0]; next != "" && next != "*" {
					_, stands := handed[next]
					probeIs(t, encodes, states[name]+"x: "+first.at("y")+"; p: "+r.at("z")+"; ret; z: ret; "+ending(behind[1], "y"), stands)
					asked++
				}
				if target := behind[1]; target != "" {
					_, stands := handed[target]
					text := states[name] + "x: " + first.at("p") + "; " + ending(behind[0], "y") + "p: " + r.at("z") + "; ret; z: ret"
					probeIs(t, encodes, text, stands)
					asked++
				}
			}
		}
	}
	return asked
}

// P15.2: every row of the decoder's table, met and not met, and what it hands on.
func TestDecoderRows(t *testing.T) {
	if n := rowsAre(t, false, decoderStates, decoderRows); n < 4000 {
		t.Errorf("only %d were asked", n)
	}
}

// P15.2: every row of the encoder's table, met and not met, and what it hands on.
func TestEncoderRows(t *testing.T) {
	if n := rowsAre(t, true, encoderStates, encoderRows); n < 1000 {
		t.Errorf("only %d were asked", n)
	}
}
