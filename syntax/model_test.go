package syntax_test

import (
	"fmt"
	"slices"
	"testing"

	"mortise/api"
	"mortise/syntax"
	"mortise/tokens"
)

func fault(e api.Errno, at int) api.Fault { return api.Fault{Err: e, At: at} }

// words: the grammar's words, as chapter 5 lists them; those but the first begin a type.
func words() []string {
	return []string{"type", "u8", "u16", "u32", "u64", "bool", "varint", "vector", "list", "option", "union", "struct"}
}

// rules: the grammar of DOC.md as a table: what a part of it becomes, by the token that comes next ("" at the end of the text). All else is a token, by its class.
var rules = map[string]map[string][]string{
	"SCHEMA": {"": {}, "type": {"type", "name", "=", "TYPE", ";", "SCHEMA"}},
	"TYPE": {
		"u8": {"u8"}, "u16": {"u16"}, "u32": {"u32"}, "u64": {"u64"}, "bool": {"bool"}, "varint": {"varint"}, "name": {"name"},
		"vector": {"vector", "<", "TYPE", ",", "number", ">"},
		"list":   {"list", "<", "TYPE", ",", "number", ">"},
		"option": {"option", "<", "TYPE", ">"},
		"union":  {"union", "{", "ARM", "ARMS", "}"},
		"struct": {"struct", "{", "FIELD", "FIELDS", "}"},
	},
	"ARM":    {"number": {"number", ":", "TYPE"}},
	"ARMS":   {",": {",", "ARM", "ARMS"}, "}": {}},
	"FIELD":  {"name": {"name", ":", "TYPE"}},
	"FIELDS": {",": {",", "FIELD", "FIELDS"}, "}": {}},
}

// class: of a token: the word or the mark itself, name, or number; "" of none.
func class(t api.Token) string {
	switch {
	case t.Kind == api.TokNumber:
		return "number"
	case t.Kind == api.TokName && !slices.Contains(words(), t.Text):
		return "name"
	}
	return t.Text
}

// wanted: a part of the grammar that is still to come; of a type how many it lies in, and whether it is a field or an arm; of a field or an arm the node that it is a kid of; of a number the node that it belongs to.
type wanted struct {
	part  string
	depth int
	node  int
	piece bool
}

// model: Parse by a stack of what is still to come, without recursion.
type model struct {
	defs  []api.Def
	stack []wanted
	head  api.Expr // of the field or arm that is being read
}

func newModel() *model { return &model{stack: []wanted{{part: "SCHEMA"}}} }

// put: what a rule makes of a part, the first of it on top.
func (m *model) put(w wanted, parts []string) {
	for _, s := range slices.Backward(parts) {
		x := wanted{part: s, depth: w.depth, node: w.node}
		switch {
		case s == "TYPE" && w.part == "TYPE":
			x.depth++
		case s == "TYPE" && (w.part == "ARM" || w.part == "FIELD"):
			x.depth, x.piece = w.depth+1, true
		}
		m.stack = append(m.stack, x)
	}
}

func (m *model) last() *api.Def { return &m.defs[len(m.defs)-1] }

// open: lays the node of a type that begins with this token.
func (m *model) open(w *wanted, t api.Token) {
	d := m.last()
	x := api.Expr{At: t.At}
	if w.piece {
		x = m.head
	}
	switch class(t) {
	case "name":
		x.Kind, x.Name = api.KindName, t.Text
	case "vector", "list", "option":
		x.Kids = 1
		fallthrough
	default:
		x.Kind = map[string]int{"u8": api.KindUint, "u16": api.KindUint, "u32": api.KindUint, "u64": api.KindUint, "bool": api.KindBool, "varint": api.KindVarint, "vector": api.KindVector, "list": api.KindList, "option": api.KindOption, "union": api.KindUnion, "struct": api.KindStruct}[t.Text]
		x.N = map[string]int{"u8": 1, "u16": 2, "u32": 4, "u64": 8}[t.Text]
	}
	w.node = len(d.Type)
	d.Type = append(d.Type, x)
}

// begin: a part of the grammar begins with this token. What is against it?
func (m *model) begin(w *wanted, t api.Token) api.Errno {
	switch w.part {
	case "SCHEMA":
		if t.Kind != 0 && len(m.defs) == 256 {
			return api.ErrMany
		}
	case "TYPE":
		if w.depth > 16 {
			return api.ErrNest
		}
		m.open(w, t)
	case "FIELD", "ARM":
		kids := &m.last().Type[w.node].Kids
		if *kids == 64 {
			return api.ErrMany
		}
		*kids++
		m.head = api.Expr{At: t.At, Label: t.Text, Tag: t.N}
	}
	return api.OK
}

// taken: a token is taken where w was wanted; behind it stands another part.
func (m *model) taken(w wanted, t api.Token, behind string) {
	switch {
	case w.part == "name" && behind == "=":
		m.defs = append(m.defs, api.Def{Name: t.Text, At: t.At})
	case w.part == "number" && behind == ">":
		m.last().Type[w.node].N = t.N
	}
}

// token: the model goes on by one token; one of no kind is the text's end.
func (m *model) token(t api.Token) api.Errno {
	for len(m.stack) > 0 {
		w := m.stack[len(m.stack)-1]
		rule, isRule := rules[w.part]
		switch {
		case isRule:
			parts, ok := rule[class(t)]
			if !ok {
				return api.ErrToken
			}
			if e := m.begin(&w, t); e != api.OK {
				return e
			}
			m.stack = m.stack[:len(m.stack)-1]
			m.put(w, parts)
		case w.part != class(t):
			return api.ErrToken
		default:
			m.stack = m.stack[:len(m.stack)-1]
			m.taken(w, t, m.stack[len(m.stack)-1].part)
			return api.OK
		}
	}
	return api.OK
}

// run: the model of a text, gone on as far as its tokens lead, and what Parse is to answer.
func run(text string) (*model, api.Source, api.Fault) {
	m := newModel()
	list, f := tokens.Cut(text)
	if f.Err != api.OK {
		return m, api.Source{}, f
	}
	for _, t := range append(list, api.Token{At: len(text)}) {
		if e := m.token(t); e != api.OK {
			return m, api.Source{}, fault(e, t.At)
		}
	}
	return m, api.Source{Defs: m.defs}, api.Fault{}
}

// rest: a shortest text with which what is still to come is there.
func (m *model) rest() string {
	s := ""
	for _, w := range slices.Backward(m.stack) {
		s += " " + map[string]string{"SCHEMA": "", "TYPE": "u8", "ARM": "0:u8", "FIELD": "a:u8", "ARMS": "", "FIELDS": "", "name": "a", "number": "0"}[w.part]
		if _, isRule := rules[w.part]; !isRule && w.part != "name" && w.part != "number" {
			s += w.part
		}
	}
	return s
}

func sameDef(a, b api.Def) bool {
	return a.Name == b.Name && a.At == b.At && slices.Equal(a.Type, b.Type)
}

func same(a, b api.Source) bool { return slices.EqualFunc(a.Defs, b.Defs, sameDef) }

// clone: new memory, and without places, if so asked.
func clone(s api.Source, places bool) api.Source {
	out := api.Source{Defs: slices.Clone(s.Defs)}
	for i := range out.Defs {
		d := &out.Defs[i]
		d.Type = slices.Clone(d.Type)
		if places {
			continue
		}
		d.At = 0
		for k := range d.Type {
			d.Type[k].At = 0
		}
	}
	return out
}

// brief: a source as a text that is not too long to be read.
func brief(s api.Source) string { return fmt.Sprintf("%.400s", fmt.Sprintf("%+v", s)) }

// check tells where Parse's answer is another one than said.
func check(t *testing.T, text string, want api.Source, f api.Fault) {
	t.Helper()
	is, g := syntax.Parse(text)
	if !same(is, want) || g != f {
		t.Errorf("P6.2: Parse(%.200q) of %d bytes = %s, %v, want %s, %v", text, len(text), brief(is), g, brief(want), f)
	}
	if g.Err != api.OK && is.Defs != nil {
		t.Errorf("P6.1: Parse(%.200q) answers %v with the fault %v", text, is, g)
	}
}

func refused(t *testing.T, text string, e api.Errno, at int) {
	t.Helper()
	check(t, text, api.Source{}, fault(e, at))
}

// checkPlaces: P6.4, of a text that is parsed.
func checkPlaces(t *testing.T, text string, s api.Source) {
	t.Helper()
	if d, n, e := syntax.Check(s); d != 0 || n != 0 || e != api.OK {
		t.Errorf("P6.4: Check of what Parse(%.200q) answers is %d, %d, %d", text, d, n, e)
	}
	list, _ := tokens.Cut(text)
	at := -1
	meant := func(place int, what string, is func(x api.Token) bool) {
		t.Helper()
		i := slices.IndexFunc(list, func(x api.Token) bool { return x.At == place })
		if place <= at || place >= len(text) || i < 0 || !is(list[i]) {
			t.Errorf("P6.4: %.200q: %s has the place %d, behind %d", text, what, place, at)
		}
		at = place
	}
	for _, d := range s.Defs {
		meant(d.At, "the definition "+d.Name, func(x api.Token) bool { return x.Kind == api.TokName && x.Text == d.Name })
		left := []api.Expr{}
		for _, x := range d.Type {
			over := api.Expr{}
			if len(left) > 0 {
				over = left[len(left)-1]
				left[len(left)-1].Kids--
			}
			meant(x.At, "a node", func(y api.Token) bool {
				switch over.Kind {
				case api.KindStruct:
					return y.Kind == api.TokName && y.Text == x.Label
				case api.KindUnion:
					return y.Kind == api.TokNumber && y.N == x.Tag
				}
				return y.Kind == api.TokName && y.Text == firstOf(x)
			})
			left = append(left, x)
			for len(left) > 0 && left[len(left)-1].Kids == 0 {
				left = left[:len(left)-1]
			}
		}
	}
}

// firstOf: the word or the name that a node's type begins with.
func firstOf(x api.Expr) string {
	switch x.Kind {
	case api.KindUint:
		return map[int]string{1: "u8", 2: "u16", 4: "u32", 8: "u64"}[x.N]
	case api.KindName:
		return x.Name
	}
	return map[int]string{api.KindBool: "bool", api.KindVarint: "varint", api.KindVector: "vector", api.KindList: "list", api.KindOption: "option", api.KindUnion: "union", api.KindStruct: "struct"}[x.Kind]
}

// checkAll holds a text against the model, and against what follows.
func checkAll(t *testing.T, text string) api.Fault {
	t.Helper()
	m, want, f := run(text)
	check(t, text, want, f)
	switch {
	case f.Err == api.OK:
		checkPlaces(t, text, want)
	case f == fault(api.ErrToken, len(text)):
		checkFront(t, text, m.rest())
	}
	return f
}

// checkFront: P6.7, of a text that ends too early, with what makes it whole.
func checkFront(t *testing.T, text, rest string) {
	t.Helper()
	_, f := syntax.Parse(text + "\n" + rest) // the text may end in a remark
	limit := f.Err == api.ErrMany || f.Err == api.ErrNest
	if f != fault(api.OK, 0) && !(limit && f.At > len(text)) {
		t.Errorf("P6.7: Parse(%.200q) can go on, but with %q behind it is %v", text, rest, f)
	}
}
