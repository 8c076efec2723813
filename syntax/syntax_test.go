package syntax_test

import (
	"slices"
	"strconv"
	"strings"
	"testing"
	"unsafe"

	"mortise/api"
	"mortise/syntax"
	"mortise/tokens"
)

func source(l ...api.Def) api.Source { return api.Source{Defs: l} }

func def(name string, at int, l ...api.Expr) api.Def { return api.Def{Name: name, At: at, Type: l} }

// deepIn: a text that ends behind so many times option<.
func deepIn(n int) string { return "type a = " + strings.Repeat("option<", n) }

// P6.2: the chapter's worked examples.
func TestParseExamples(t *testing.T) {
	check(t, "", api.Source{}, api.Fault{})
	check(t, "#", api.Source{}, api.Fault{})
	check(t, "type a = u16;", source(def("a", 5, api.Expr{Kind: api.KindUint, N: 2, At: 9})), api.Fault{})
	check(t, "type p = struct { x: u8, y: list<p2, 7> };", source(def("p", 5,
		api.Expr{Kind: api.KindStruct, Kids: 2, At: 9}, api.Expr{Kind: api.KindUint, N: 1, Label: "x", At: 18},
		api.Expr{Kind: api.KindList, N: 7, Kids: 1, Label: "y", At: 25}, api.Expr{Kind: api.KindName, Name: "p2", At: 33})), api.Fault{})
	check(t, "type o=union{3:bool,0:option<varint>};", source(def("o", 5,
		api.Expr{Kind: api.KindUnion, Kids: 2, At: 7}, api.Expr{Kind: api.KindBool, Tag: 3, At: 13},
		api.Expr{Kind: api.KindOption, Kids: 1, Tag: 0, At: 20}, api.Expr{Kind: api.KindVarint, At: 29})), api.Fault{})
	check(t, "type a = a;", source(def("a", 5, api.Expr{Kind: api.KindName, Name: "a", At: 9})), api.Fault{})
	refused(t, "type u8 = u8;", api.ErrToken, 5)
	refused(t, "type 7 = u8;", api.ErrToken, 5)
	refused(t, "type a u8;", api.ErrToken, 7)
	refused(t, "type a = u8", api.ErrToken, 11)
	refused(t, "type a = struct {};", api.ErrToken, 17)
	refused(t, "type a = struct {x: u8,};", api.ErrToken, 23)
	refused(t, "type a = struct {list: u8};", api.ErrToken, 17)
	refused(t, "type a = union {x: u8};", api.ErrToken, 16)
	refused(t, "type a = vector<u8, x>;", api.ErrToken, 20)
	refused(t, "type a = list<u8>;", api.ErrToken, 16)
	refused(t, "type a = type;", api.ErrToken, 9)
	refused(t, "type a = u8; A", api.ErrByte, 13)
	refused(t, deepIn(17)+"u8", api.ErrNest, 9+7*17)
	refused(t, deepIn(18)+",", api.ErrNest, 9+7*17)
	refused(t, deepIn(17)+",", api.ErrToken, 9+7*17)
	text := wide("struct", 65)
	refused(t, text, api.ErrMany, strings.Index(text, "p65:"))
}

// P6.2: nothing but blanks and remarks: no definitions.
func TestParseNothing(t *testing.T) {
	for _, text := range []string{" ", "\n", "\t \n", "# type a = ;", "#\n#", " # any \xff\n\t", strings.Repeat(" ", 65536), strings.Repeat("#", 65536)} {
		check(t, text, api.Source{}, api.Fault{})
	}
}

// kinds: every kind of type expression, and its nodes, with places counted from its first token.
func kinds() map[string][]api.Expr {
	return map[string][]api.Expr{
		"u8":              {{Kind: api.KindUint, N: 1}},
		"u16":             {{Kind: api.KindUint, N: 2}},
		"u32":             {{Kind: api.KindUint, N: 4}},
		"u64":             {{Kind: api.KindUint, N: 8}},
		"bool":            {{Kind: api.KindBool}},
		"varint":          {{Kind: api.KindVarint}},
		"u128":            {{Kind: api.KindName, Name: "u128"}},
		"types":           {{Kind: api.KindName, Name: "types"}},
		"vector<bool,0>":  {{Kind: api.KindVector, Kids: 1}, {Kind: api.KindBool, At: 7}},
		"vector<a_1,12>":  {{Kind: api.KindVector, N: 12, Kids: 1}, {Kind: api.KindName, Name: "a_1", At: 7}},
		"list<varint,1>":  {{Kind: api.KindList, N: 1, Kids: 1}, {Kind: api.KindVarint, At: 5}},
		"option<u32>":     {{Kind: api.KindOption, Kids: 1}, {Kind: api.KindUint, N: 4, At: 7}},
		"union{7:u8}":     {{Kind: api.KindUnion, Kids: 1}, {Kind: api.KindUint, N: 1, Tag: 7, At: 6}},
		"struct{ab:bool}": {{Kind: api.KindStruct, Kids: 1}, {Kind: api.KindBool, Label: "ab", At: 7}},
		"list<vector<u64,2147483647>,5>": {{Kind: api.KindList, N: 5, Kids: 1}, {Kind: api.KindVector, N: 2147483647, Kids: 1, At: 5},
			{Kind: api.KindUint, N: 8, At: 12}},
		"union{2147483647:x,0:x,0:list<u8,3>}": {{Kind: api.KindUnion, Kids: 3}, {Kind: api.KindName, Name: "x", Tag: 2147483647, At: 6},
			{Kind: api.KindName, Name: "x", At: 19}, {Kind: api.KindList, N: 3, Kids: 1, At: 23}, {Kind: api.KindUint, N: 1, At: 30}},
		"struct{x:x,x:struct{x:x},y:option<u8>}": {{Kind: api.KindStruct, Kids: 3}, {Kind: api.KindName, Name: "x", Label: "x", At: 7},
			{Kind: api.KindStruct, Kids: 1, Label: "x", At: 11}, {Kind: api.KindName, Name: "x", Label: "x", At: 20},
			{Kind: api.KindOption, Kids: 1, Label: "y", At: 25}, {Kind: api.KindUint, N: 1, At: 34}},
	}
}

// moved: nodes with their places moved.
func moved(l []api.Expr, by int) []api.Expr {
	l = slices.Clone(l)
	for i := range l {
		l[i].At += by
	}
	return l
}

// P6.2: every kind of type expression, by itself, behind another one, and in every other kind.
func TestParseKinds(t *testing.T) {
	all := kinds()
	for text, l := range all {
		check(t, "type k="+text+";", source(def("k", 5, moved(l, 7)...)), api.Fault{})
		check(t, "type k=u8;type kk = "+text+" ;#", source(def("k", 5, api.Expr{Kind: api.KindUint, N: 1, At: 7}), def("kk", 15, moved(l, 20)...)), api.Fault{})
		around := func(front, back string, x api.Expr, label string, tag, at int) {
			inner := moved(l, 7+len(front))
			inner[0].Label, inner[0].Tag = label, tag
			inner[0].At -= at
			x.At = 7
			check(t, "type k="+front+text+back+";", source(def("k", 5, append([]api.Expr{x}, inner...)...)), api.Fault{})
		}
		around("vector<", ",9>", api.Expr{Kind: api.KindVector, N: 9, Kids: 1}, "", 0, 0)
		around("list<", ",9>", api.Expr{Kind: api.KindList, N: 9, Kids: 1}, "", 0, 0)
		around("option<", ">", api.Expr{Kind: api.KindOption, Kids: 1}, "", 0, 0)
		around("union{41:", "}", api.Expr{Kind: api.KindUnion, Kids: 1}, "", 41, 3)
		around("union{0 : ", "}", api.Expr{Kind: api.KindUnion, Kids: 1}, "", 0, 4)
		around("struct{b_9: ", "}", api.Expr{Kind: api.KindStruct, Kids: 1}, "b_9", 0, 5)
	}
}

// P6.2: a word is no name, wherever a name is wanted; what looks like one is.
func TestParseWords(t *testing.T) {
	for _, w := range words() {
		refused(t, "type "+w+"=u8;", api.ErrToken, 5)
		refused(t, "type a=struct{"+w+":u8};", api.ErrToken, 14)
		refused(t, "type a=struct{b:u8,"+w+":u8};", api.ErrToken, 19)
		refused(t, "type a=union{"+w+":u8};", api.ErrToken, 13)
		refused(t, "type a=vector<u8,"+w+">;", api.ErrToken, 17)
		refused(t, w+" a;", api.ErrToken, map[bool]int{true: 6, false: 0}[w == "type"])
		almost := w + "_"
		name := api.Expr{Kind: api.KindName, Name: almost, At: 7 + len(w)}
		check(t, "type "+almost+"="+almost+";", source(def(almost, 5, name)), api.Fault{})
		name.Label, name.At = almost, 14
		check(t, "type a=struct{"+almost+":"+almost+"};", source(def("a", 5, api.Expr{Kind: api.KindStruct, Kids: 1, At: 7}, name)), api.Fault{})
		f := checkAll(t, "type a="+w+";")
		switch w {
		case "u8", "u16", "u32", "u64", "bool", "varint":
			if f != fault(api.OK, 0) {
				t.Errorf("P6.2: %s: %v", w, f)
			}
		case "type":
			refused(t, "type a=type;", api.ErrToken, 7)
			refused(t, "type a=option<type>;", api.ErrToken, 14)
		default:
			refused(t, "type a="+w+";", api.ErrToken, 7+len(w))
			refused(t, "type a=option<"+w+">;", api.ErrToken, 14+len(w))
		}
	}
}

// whole: a text with every kind of type, a remark, and tokens of all kinds.
func whole() string {
	return "type a=struct{x:u8,y_2:list<b,2147483647>};# a remark\n\ttype b=union{0:bool,255:option<varint>,1:struct{z:a}};type c = vector < u64 , 3 > ; type d=u16;type e=u32;"
}

// pieces: a text's tokens, as texts.
func pieces(text string) []string {
	list, _ := tokens.Cut(text)
	var out []string
	for _, x := range list {
		out = append(out, text[x.At:x.End])
	}
	return out
}

func joined(gap string, parts ...[]string) string {
	return strings.Join(slices.Concat(parts...), gap)
}

// stock: tokens of every class.
func stock() []string {
	return append(words(), "a", "zz_9", "0", "255", "2147483647", "=", ";", "<", ">", ",", ":", "{", "}")
}

// P6.2, P6.4, P6.7: each token left out, doubled, changed for another, and another one put ahead of it; the text's end behind each.
func TestParseSpoilt(t *testing.T) {
	l := pieces(whole())
	if f := checkAll(t, whole()); f != fault(api.OK, 0) {
		t.Fatalf("P6.2: %q: %v", whole(), f)
	}
	for i := range l {
		front, back := l[:i], l[i+1:]
		for _, gap := range []string{" ", "\n"} {
			checkAll(t, joined(gap, front))
			checkAll(t, joined(gap, front)+gap+"# the end")
			checkAll(t, joined(gap, front, back))
			checkAll(t, joined(gap, front, l[i:i+1], l[i:]))
		}
		for _, s := range stock() {
			checkAll(t, joined(" ", front, []string{s}, back))
			checkAll(t, joined(" ", front, []string{s}, l[i:]))
			checkAll(t, joined(" ", front, []string{s}))
		}
		for k := range l {
			swapped := slices.Clone(l)
			swapped[i], swapped[k] = swapped[k], swapped[i]
			checkAll(t, joined(" ", swapped))
		}
	}
}

// P6.2, P6.7: all rows of tokens that can go on, up to some thousands, each with every token behind it.
func TestParseSmall(t *testing.T) {
	fronts := []string{""}
	for i := 0; i < len(fronts) && i < 6000; i++ {
		for _, s := range stock() {
			text := fronts[i] + s + " "
			f := checkAll(t, text)
			if f.Err == api.OK || f == fault(api.ErrToken, len(text)) {
				fronts = append(fronts, text)
			} else if f != fault(api.ErrToken, len(fronts[i])) {
				t.Errorf("P6.2: Parse(%q) = %v", text, f)
			}
		}
	}
}

// P6.2: a text that ends too early: its length is the place, blanks and remarks behind the last token counted.
func TestParseEndsEarly(t *testing.T) {
	text := "type a = struct { x: list<u8, 7>, y: union { 0: b } };"
	list, _ := tokens.Cut(text)
	for i, x := range list[:len(list)-1] {
		for _, behind := range []string{"", " ", "\n", "#", "# type", " \t#\n", "#\n\n  "} {
			refused(t, text[:x.End]+behind, api.ErrToken, x.End+len(behind))
		}
		if next := list[i+1]; next.Kind != api.TokMark {
			refused(t, text[:next.At]+"?", api.ErrByte, next.At)
		}
	}
	refused(t, "type a = u8; typ", api.ErrToken, 13)
	refused(t, "type a = u8; type", api.ErrToken, 17)
	refused(t, "type"+strings.Repeat(" ", 65532), api.ErrToken, 65536)
	refused(t, "type"+strings.Repeat(" ", 65533), api.ErrLong, 0)
}

// P6.2: no comma ahead of a closing mark, no empty braces, and none of the marks twice.
func TestParseMarks(t *testing.T) {
	refused(t, "type a=struct{x:u8,};", api.ErrToken, 19)
	refused(t, "type a=struct{,x:u8};", api.ErrToken, 14)
	refused(t, "type a=struct{x:u8,,y:u8};", api.ErrToken, 19)
	refused(t, "type a=struct{x:u8 y:u8};", api.ErrToken, 19)
	refused(t, "type a=struct{x:u8;y:u8};", api.ErrToken, 18)
	refused(t, "type a=struct{x,y:u8};", api.ErrToken, 15)
	refused(t, "type a=struct{x:};", api.ErrToken, 16)
	refused(t, "type a=struct{1:u8};", api.ErrToken, 14)
	refused(t, "type a=struct x:u8;", api.ErrToken, 14)
	refused(t, "type a=union{};", api.ErrToken, 13)
	refused(t, "type a=union{0:u8,};", api.ErrToken, 18)
	refused(t, "type a=union{0:u8,1};", api.ErrToken, 19)
	refused(t, "type a=union{0:u8,b:u8};", api.ErrToken, 18)
	refused(t, "type a=union{0:u8>;", api.ErrToken, 17)
	refused(t, "type a=vector<u8,7,>;", api.ErrToken, 18)
	refused(t, "type a=vector<u8,>;", api.ErrToken, 17)
	refused(t, "type a=vector<u8 7>;", api.ErrToken, 17)
	refused(t, "type a=vector<7,u8>;", api.ErrToken, 14)
	refused(t, "type a=vector{u8,7};", api.ErrToken, 13)
	refused(t, "type a=list<u8,7};", api.ErrToken, 16)
	refused(t, "type a=list<>;", api.ErrToken, 12)
	refused(t, "type a=option<u8,7>;", api.ErrToken, 16)
	refused(t, "type a=option<u8,>;", api.ErrToken, 16)
	refused(t, "type a=option<>;", api.ErrToken, 14)
	refused(t, "type a=u8;;", api.ErrToken, 10)
	refused(t, ";type a=u8;", api.ErrToken, 0)
	refused(t, "type a==u8;", api.ErrToken, 7)
	refused(t, "type a:u8;", api.ErrToken, 6)
	refused(t, "type a=;", api.ErrToken, 7)
	refused(t, "type a=u8,b=u8;", api.ErrToken, 9)
	refused(t, "type a=u8 type b=u8;", api.ErrToken, 10)
	refused(t, "type a=b c;", api.ErrToken, 9)
	refused(t, "type a=u8<u8>;", api.ErrToken, 9)
	refused(t, "type a=b{x:u8};", api.ErrToken, 8)
}

// wide: a struct or union of n parts: of a struct p1 to pn, of a union 1 to n.
func wide(kind string, n int) string {
	s := "type a=" + kind + "{"
	for i := range n {
		if i > 0 {
			s += ","
		}
		if kind == "struct" {
			s += "p"
		}
		s += strconv.Itoa(i+1) + ":u8"
	}
	return s + "};"
}

// P6.2: MaxFields fields, MaxArms arms, and more.
func TestParseManyParts(t *testing.T) {
	for _, kind := range []string{"struct", "union"} {
		for _, n := range []int{1, 2, 63, 64} {
			text := wide(kind, n)
			s, f := syntax.Parse(text)
			if f != fault(api.OK, 0) || len(s.Defs) != 1 || len(s.Defs[0].Type) != n+1 || s.Defs[0].Type[0].Kids != n {
				t.Errorf("P6.2: a %s of %d: %v, %v", kind, n, s, f)
			}
			checkAll(t, text)
		}
		sixtyFour := strings.TrimSuffix(wide(kind, 64), "};")
		at, part, other, nested := len(sixtyFour)+1, "p65", "65", "a"
		if kind == "union" {
			part, other, nested = other, part, "0"
		}
		refused(t, wide(kind, 65), api.ErrMany, at)
		refused(t, wide(kind, 300), api.ErrMany, at)
		refused(t, sixtyFour+",\n# 65\n"+part, api.ErrMany, at+6)
		for _, behind := range []string{"", ":", ":u8", ":u8};", "=", "}", " type", ":" + kind, " " + part} {
			refused(t, sixtyFour+","+part+behind, api.ErrMany, at)
		}
		for _, wrong := range append(words(), other, ",", "}", ":", ";", "=", "<", "{") {
			refused(t, sixtyFour+","+wrong, api.ErrToken, at)
		}
		refused(t, sixtyFour+",", api.ErrToken, at)
		refused(t, sixtyFour+"}", api.ErrToken, at)
		refused(t, sixtyFour+";", api.ErrToken, at-1)
		checkAll(t, strings.Replace(wide(kind, 64), "64:u8", "64:"+kind+"{"+nested+":u8}", 1))
	}
	text := strings.Replace(wide("struct", 64), "p7:u8", "p7:"+strings.TrimSuffix(wide("union", 64)[7:], ";"), 1)
	if f := checkAll(t, text); f != fault(api.OK, 0) {
		t.Errorf("P6.2: 64 arms in one of 64 fields: %v", f)
	}
	text = strings.Replace(wide("struct", 64), "p7:u8", "p7:"+strings.TrimSuffix(wide("union", 65)[7:], ";"), 1)
	refused(t, text, api.ErrMany, strings.Index(text, "65:"))
}

// P6.2: MaxDefs definitions, and more.
func TestParseManyDefs(t *testing.T) {
	for _, n := range []int{1, 255, 256} {
		text := strings.Repeat("type a=u8;", n)
		if s, f := syntax.Parse(text); f != fault(api.OK, 0) || len(s.Defs) != n {
			t.Errorf("P6.2: %d definitions: %d, %v", n, len(s.Defs), f)
		}
		checkAll(t, text)
	}
	text := strings.Repeat("type a=u8;", 256)
	for _, behind := range []string{"type", "type a=u8;", "type type", "type;", "type#", "type a", strings.Repeat("type a=u8;", 300)} {
		refused(t, text+behind, api.ErrMany, 2560)
		refused(t, text+"# 257\n"+behind, api.ErrMany, 2566)
	}
	for _, s := range stock() {
		if s != "type" {
			refused(t, text+s, api.ErrToken, 2560)
			refused(t, text+" "+s+" type", api.ErrToken, 2561)
		}
	}
	refused(t, text[:2559]+" type", api.ErrToken, 2560)
}

// nests: every way in which an expression may lie in another one: what stands ahead of it and behind.
func nests() [][2]string {
	return [][2]string{{"option<", ">"}, {"list<", ",1>"}, {"vector<", ",1>"}, {"struct{a:", "}"}, {"union{0:", "}"}, {"struct{a:u8,b:", ",c:bool}"}, {"union{0:u8,1:", ",2:bool}"}}
}

// nested: n ways that follow one another from number i on; what stands ahead, and behind.
func nested(i, n int) (front, back string) {
	for k := range n {
		w := nests()[(i+k)%len(nests())]
		front, back = front+w[0], w[1]+back
	}
	return front, back
}

// P6.2: an expression that lies in MaxNest others, and in one more, with every token behind.
func TestParseNest(t *testing.T) {
	for i, w := range nests() {
		mixed, mixedBack := nested(i, 16)
		for _, fb := range [][2]string{{strings.Repeat(w[0], 16), strings.Repeat(w[1], 16)}, {mixed, mixedBack}} {
			front, back := "type a="+fb[0], fb[1]+";"
			for text := range kinds() {
				want := fault(api.OK, 0)
				if inner := strings.IndexAny(text, "<:") + 1; inner > 0 {
					want = fault(api.ErrNest, len(front)+inner)
				}
				if f := checkAll(t, front+text+back); f != want {
					t.Errorf("P6.2: in 16 others %q: %v, want %v", front+text+back, f, want)
				}
				refused(t, front+w[0]+text+w[1]+back, api.ErrNest, len(front)+strings.IndexAny(w[0], "<:")+1)
			}
			checkAll(t, front+"u8"+back+"type b=u8;")
		}
		deep := "type a=" + strings.Repeat("option<", 16) + w[0][:strings.IndexAny(w[0], "<:")+1]
		for _, s := range stock() {
			class := api.ErrToken
			if s != "type" && s[0] >= 'a' && s[0] <= 'z' {
				class = api.ErrNest
			}
			refused(t, deep+s, class, len(deep))
			refused(t, deep+" "+s+" A", api.ErrByte, len(deep)+len(s)+2)
		}
		refused(t, deep, api.ErrToken, len(deep))
		refused(t, deep+" # u8", api.ErrToken, len(deep)+5)
	}
	refused(t, deepIn(17)+"u8"+strings.Repeat(">", 17)+";", api.ErrNest, 9+7*17)
	refused(t, deepIn(300)+"u8", api.ErrNest, 9+7*17)
	refused(t, deepIn(9000), api.ErrNest, 9+7*17)
	refused(t, "type b=u8;"+deepIn(17)+"b", api.ErrNest, 19+7*17)
	check(t, "type a="+strings.Repeat("vector<", 16)+"x"+strings.Repeat(",0>", 16)+";", source(def("a", 5, vectors()...)), api.Fault{})
}

// vectors: 16 vectors in one another, and a name.
func vectors() []api.Expr {
	var l []api.Expr
	for i := range 16 {
		l = append(l, api.Expr{Kind: api.KindVector, Kids: 1, At: 7 + 7*i})
	}
	return append(l, api.Expr{Kind: api.KindName, Name: "x", At: 7 + 7*16})
}

// P6.2: a deep expression leaves nothing behind: one that comes later may be as deep again.
func TestParseNestAgain(t *testing.T) {
	front, back := nested(0, 15)
	text := "type a=struct{x:" + front + "u8" + back + ",y:" + front + "b" + back + "};type b=option<" + front + "u8" + back + ">;"
	if f := checkAll(t, text); f != fault(api.OK, 0) {
		t.Errorf("P6.2: %q: %v", text, f)
	}
}

// P6.2: which of two faults at one token is answered, and that the first token counts.
func TestParseFirstFault(t *testing.T) {
	deep := "type a=" + strings.Repeat("option<", 16)
	fields := strings.TrimSuffix(wide("struct", 64)[7:], "};")
	arms := strings.TrimSuffix(wide("union", 64)[7:], "};")
	// In a struct or union that lies in 16 others, the first part's type is too deep: no further part is come to.
	refused(t, deep+fields+",p65:u8", api.ErrNest, len(deep)+len("struct{p1:"))
	refused(t, deep+arms+",65:u8", api.ErrNest, len(deep)+len("union{1:"))
	refused(t, deep+"struct{list:u8", api.ErrToken, len(deep)+7)
	refused(t, deep+"struct{a u8", api.ErrToken, len(deep)+9)
	refused(t, deep+"struct{}", api.ErrToken, len(deep)+7)
	refused(t, deep+"union{a:u8", api.ErrToken, len(deep)+6)
	refused(t, deep+"vector{u8", api.ErrToken, len(deep)+6)
	// One less deep: the part too many is met at its label or tag, ahead of its type.
	less := deep[:len(deep)-7]
	refused(t, less+fields+",p65:option<u8", api.ErrMany, len(less)+len(fields)+1)
	refused(t, less+arms+",65:option<u8", api.ErrMany, len(less)+len(arms)+1)
	refused(t, less+fields[:len(fields)-2]+"option<u8>,p65", api.ErrNest, len(less)+len(fields)-2+7)
	defs := strings.Repeat("type a=u8;", 256)
	refused(t, defs+"type "+deep[5:]+"option<u8", api.ErrMany, 2560)
	refused(t, strings.Replace(defs, "u8;", "u8 ", 1)+"type", api.ErrToken, 10)
}

// P6.2: the tokens' fault goes ahead of the grammar's, wherever it stands.
func TestParseCutFirst(t *testing.T) {
	for _, c := range []struct {
		text string
		e    api.Errno
	}{{"A", api.ErrByte}, {"\x00", api.ErrByte}, {"_", api.ErrByte}, {"007", api.ErrNumber}, {"2147483648", api.ErrNumber}, {strings.Repeat("n", 33), api.ErrName}} {
		for _, front := range []string{"", "type ", "type u8 = u8; ", "} ", "type a = u8 ", "type a = u8; ", deepIn(30), wide("struct", 70), wide("union", 65), strings.Repeat("type a=u8;", 257), "7 = ;\n"} {
			refused(t, front+c.text, c.e, len(front))
			refused(t, front+c.text+" 00 A ;", c.e, len(front))
		}
	}
	for _, text := range []string{strings.Repeat("type a=u8;", 6554), ";" + strings.Repeat(" ", 65536), strings.Repeat("A", 65537)} {
		refused(t, text, api.ErrLong, 0)
	}
	refused(t, strings.Repeat("type a=u8;", 6553), api.ErrMany, 2560)
	refused(t, strings.Repeat("A", 65536), api.ErrByte, 0)
}

// P6.2: numbers and names as they stand, at their edges.
func TestParseEdges(t *testing.T) {
	long := strings.Repeat("n", 32)
	check(t, "type "+long+"=struct{"+long+":"+long+"};", source(def(long, 5, api.Expr{Kind: api.KindStruct, Kids: 1, At: 38}, api.Expr{Kind: api.KindName, Name: long, Label: long, At: 45})), api.Fault{})
	for _, n := range []int{0, 1, 255, 256, 1048576, 1048577, 2147483647} {
		s := strconv.Itoa(n)
		check(t, "type a=vector<u8,"+s+">;", source(def("a", 5, api.Expr{Kind: api.KindVector, N: n, Kids: 1, At: 7}, api.Expr{Kind: api.KindUint, N: 1, At: 14})), api.Fault{})
		check(t, "type a=list<u8,"+s+">;", source(def("a", 5, api.Expr{Kind: api.KindList, N: n, Kids: 1, At: 7}, api.Expr{Kind: api.KindUint, N: 1, At: 12})), api.Fault{})
		check(t, "type a=union{"+s+":u8};", source(def("a", 5, api.Expr{Kind: api.KindUnion, Kids: 1, At: 7}, api.Expr{Kind: api.KindUint, N: 1, Tag: n, At: 13})), api.Fault{})
	}
	// What the names mean, and whether two are the same, is not asked here.
	for _, text := range []string{"type a=b;", "type a=a;", "type a=u8;type a=u8;", "type a=struct{x:u8,x:u8};", "type a=union{0:u8,0:u8};", "type a=list<a,0>;"} {
		if f := checkAll(t, text); f != fault(api.OK, 0) {
			t.Errorf("P6.2: %q: %v", text, f)
		}
	}
}

// great: a text of thousands of nodes, many lists of which are moved while they grow.
func great() string {
	inner := strings.TrimSuffix(wide("struct", 64)[7:], ";")
	outer := "type a=struct{"
	for i := range 64 {
		outer += "f" + strconv.Itoa(i) + ":" + inner + ","
	}
	return strings.TrimSuffix(outer, ",") + "};type b=" + inner + ";"
}

// P6.2, P6.4: great texts.
func TestParseGreat(t *testing.T) {
	s, f := syntax.Parse(great())
	if f != fault(api.OK, 0) || len(s.Defs) != 2 || len(s.Defs[0].Type) != 1+64*65 || len(s.Defs[1].Type) != 65 {
		t.Errorf("P6.2: a text of %d bytes: %v", len(great()), f)
	}
	checkAll(t, great())
	checkAll(t, great()+strings.Repeat(" ", 65536-len(great())))
	refused(t, great()[:len(great())-1], api.ErrToken, len(great())-1)
}

// numbered: which token, from 0 on, stands at a place; their number, if it is the text's length.
func numbered(text string, place int) int {
	list, _ := tokens.Cut(text)
	i := slices.IndexFunc(list, func(x api.Token) bool { return x.At == place })
	if i < 0 && place == len(text) {
		return len(list)
	}
	return i
}

// byTokens: a source whose places are the numbers of the tokens that stand there.
func byTokens(text string, s api.Source) api.Source {
	s = clone(s, true)
	for i := range s.Defs {
		s.Defs[i].At = numbered(text, s.Defs[i].At)
		for k := range s.Defs[i].Type {
			s.Defs[i].Type[k].At = numbered(text, s.Defs[i].Type[k].At)
		}
	}
	return s
}

// manyTexts: good ones, and ones with faults of all kinds.
func manyTexts() []string {
	out := []string{"", whole(), "type a=u8;", deepIn(16) + "u8" + strings.Repeat(">", 16) + ";", deepIn(17) + "u8", deepIn(17) + ",", wide("struct", 65), wide("union", 65), strings.Repeat("type a=u8;", 257), "type a=struct{x:u8,};", "type", "type a=u8;type b=list<a,7", ";"}
	for text := range kinds() {
		out = append(out, "type k="+text+";")
	}
	slices.Sort(out)
	return out
}

// P6.5: other blanks and remarks change nothing but places; a fault comes at the same token.
func TestParseTokensAlone(t *testing.T) {
	for _, text := range manyTexts() {
		s, f := syntax.Parse(text)
		want, at := byTokens(text, s), numbered(text, f.At)
		for _, gap := range []string{" ", "\t", "\n", "  ", "#\n", " # type b = u8;\n", "#\r\xff\n\t", "\n\n# A 007\n"} {
			for _, ahead := range []string{"", gap} {
				other := ahead + joined(gap, pieces(text)) + gap
				s, g := syntax.Parse(other)
				if !same(byTokens(other, s), want) || g.Err != f.Err || g.Err != api.OK && numbered(other, g.At) != at {
					t.Errorf("P6.5: %.200q: %v, but with %q between: %v", text, f, gap, g)
				}
			}
		}
	}
}

// P6.6: two texts, one behind the other with a line's end between.
func TestParseTwo(t *testing.T) {
	var good []string
	for _, text := range append(manyTexts(), "# a remark", " ", strings.Repeat("type q=u8;", 100), great()[:7]+"u8;#") {
		if _, f := syntax.Parse(text); f == fault(api.OK, 0) {
			good = append(good, text)
		}
	}
	for _, a := range good {
		for _, b := range good {
			first, _ := syntax.Parse(a)
			second, _ := syntax.Parse(b)
			for i := range second.Defs {
				second.Defs[i].At += len(a) + 1
				second.Defs[i].Type = moved(second.Defs[i].Type, len(a)+1)
			}
			both, f := syntax.Parse(a + "\n" + b)
			if want := source(slices.Concat(first.Defs, second.Defs)...); f != fault(api.OK, 0) || !same(both, want) {
				t.Errorf("P6.6: %.100q and %.100q: %v, %v, want %v", a, b, both, f, want)
			}
		}
	}
	half := strings.Repeat("type q=u8;", 128)
	if s, f := syntax.Parse(half + "\n" + half); f != fault(api.OK, 0) || len(s.Defs) != 256 {
		t.Errorf("P6.6: 128 definitions twice: %d, %v", len(s.Defs), f)
	}
	refused(t, half+"\n"+half+"\n"+half, api.ErrMany, 2562)
}

// P6.1: what is answered is new memory, spare room too, and no two lists share any.
func TestParseIsNew(t *testing.T) {
	for _, text := range append(manyTexts(), great()) {
		first, f := syntax.Parse(text)
		held := clone(first, true)
		second, _ := syntax.Parse(text)
		want := clone(second, true)
		for i := range second.Defs {
			l := second.Defs[i].Type
			for k := range l[:cap(l)] {
				l[:cap(l)][k] = api.Expr{Kind: -7, Name: "?", At: 77}
			}
			want.Defs[i].Type = slices.Clone(l)
			if !same(second, want) {
				t.Fatalf("P6.1: %.100q: what is written into the nodes of definition %d is seen in others", text, i)
			}
		}
		for i := range second.Defs[:cap(second.Defs)] {
			second.Defs[:cap(second.Defs)][i] = def("?", 77)
		}
		third, g := syntax.Parse(text)
		if !same(first, held) || !same(third, held) || f != g {
			t.Errorf("P6.1: %.100q: what is written into an answer is seen in another one", text)
		}
	}
}

// P6.1: the text is not kept: its bytes may be written over.
func TestParseKeepsNoText(t *testing.T) {
	_, want, _ := run(whole())
	b := []byte(whole())
	s, f := syntax.Parse(unsafe.String(&b[0], len(b)))
	for i := range b {
		b[i] = '?'
	}
	if f != fault(api.OK, 0) || !same(s, want) {
		t.Errorf("P6.1: the source of a text whose bytes are written over is %v, want %v", s, want)
	}
}

// P6.1, P6.2: any bytes: Parse ends, and answers as the model says.
func TestParseBytes(t *testing.T) {
	for c := range 256 {
		s := string([]byte{byte(c)})
		for _, text := range []string{s, "type a" + s + "=u8;", "type a=" + s, "type a=u8" + s, "type a=u8;" + s, "type a=list<u8" + s + "7>;", "type a=union{0" + s + "u8};", "type a=struct{x:u8" + s + "};", s + s + s} {
			checkAll(t, text)
		}
	}
}
