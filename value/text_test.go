package value_test

import (
	"math"
	"math/rand"
	"slices"
	"strconv"
	"strings"
	"testing"

	"mortise/api"
	"mortise/value"
)

// examples: values of every kind, each kind's edges, and their texts as the chapter writes them.
func examples() map[string][]api.Node {
	return map[string][]api.Node{
		"[{1, none}, 2, some 3]":        chapter(),
		"[1, {true, none}, <5:some 7>]": list(s(3), u(1), st(2), b(1), o(0), c(5), o(1), u(7)),
		"0":                             list(u(0)),
		"7":                             list(u(7)),
		"10":                            list(u(10)),
		"18446744073709551615":          list(u(math.MaxUint64)),
		"true":                          list(b(1)),
		"false":                         list(b(0)),
		"none":                          list(o(0)),
		"some none":                     list(o(1), o(0)),
		"some some some []":             list(o(1), o(1), o(1), s(0)),
		"[]":                            list(s(0)),
		"[[]]":                          list(s(1), s(0)),
		"[[], []]":                      list(s(2), s(0), s(0)),
		"{0}":                           list(st(1), u(0)),
		"{[], {false}}":                 list(st(2), s(0), st(1), b(0)),
		"<0:0>":                         list(c(0), u(0)),
		"<5:true>":                      list(c(5), b(1)),
		"<255:<0:[[]]>>":                list(c(255), c(0), s(1), s(0)),
		"<99:some <100:none>>":          list(c(99), o(1), c(100), o(0)),
		"[some 1, none, some [], 2]":    list(s(4), o(1), u(1), o(0), o(1), s(0), u(2)),
		"[some {some <7:some 1>}, 2]":   list(s(2), o(1), st(1), o(1), c(7), o(1), u(1), u(2)),
	}
}

// P4.5, P4.6, P4.9: there and back.
func TestTextExamples(t *testing.T) {
	for text, v := range examples() {
		if is, e := value.Print(v); is != text || e != api.OK {
			t.Errorf("P4.5: Print(%v) = %q, %d, want %q", v, is, e, text)
		}
		if is, f := value.Parse(text); !slices.Equal(is, v) || f != fault(api.OK, 0) {
			t.Errorf("P4.6: Parse(%q) = %v, %v, want %v", text, is, f, v)
		}
	}
}

// P4.5: Check's error, and no text.
func TestPrintWrong(t *testing.T) {
	for _, v := range [][]api.Node{nil, {}, list(s(1)), list(u(7), u(7)), list(b(2)), list(st(0)), chapter()[:6], append(chapter(), u(0)), many(400000, u(7)), append(list(s(1<<20)), many(400000, u(7))...)} {
		if is, e := value.Print(v); is != "" || e != api.ErrNode {
			t.Errorf("P4.5: Print of %d nodes that are no value = %q, %d", len(v), is, e)
		}
	}
}

// longValue: a list whose text has as many bytes as said (3 or more).
func longValue(length int) []api.Node {
	v := append(list(s(length/3)), many(length/3, u(7))...)
	v[1] = u([]uint64{7, 77, 777}[length%3])
	return v
}

// around puts a value into one node of one kid, or more.
func around(count int, n api.Node, v []api.Node) []api.Node { return append(many(count, n), v...) }

// longTexts: values of all kinds whose texts have as many bytes as said.
func longTexts(length int) map[string][]api.Node {
	return map[string][]api.Node{
		"a list":      longValue(length),
		"lists":       around(1000, s(1), longValue(length-2000)),
		"structs":     around(1000, st(1), longValue(length-2000)),
		"options":     around(1000, o(1), longValue(length-5000)),
		"unions":      around(1000, c(16), longValue(length-5000)),
		"two":         slices.Concat(list(st(2)), longValue(length-1000), longValue(1000-4)),
		"last":        slices.Concat(list(st(2)), longValue(length-24), list(u(math.MaxUint64))),
		"as deep too": around(1<<16, s(1), longValue(length-1<<17)),
	}
}

// P4.5, P4.6, P4.9: texts of MaxScript bytes, and of one more.
func TestLong(t *testing.T) {
	for name, v := range longTexts(api.MaxScript) {
		text, e := value.Print(v)
		if len(text) != api.MaxScript || e != api.OK {
			t.Fatalf("P4.5: %s: Print gives %d bytes, error %d", name, len(text), e)
		}
		if is, f := value.Parse(text); !slices.Equal(is, v) || f != fault(api.OK, 0) {
			t.Errorf("P4.9: %s: Parse of Print gives %d nodes, want %d, fault %v", name, len(is), len(v), f)
		}
		if is, f := value.Parse(text[:api.MaxScript-1] + " "); len(is) != 0 || f != fault(api.ErrText, api.MaxScript-1) {
			t.Errorf("P4.6: %s: its last byte spoilt: %d nodes, fault %v", name, len(is), f)
		}
		for _, longer := range []string{text + " ", " " + text, text + text} {
			if is, f := value.Parse(longer); len(is) != 0 || f != fault(api.ErrLong, 0) {
				t.Errorf("P4.6: %s: of %d bytes: %d nodes, fault %v", name, len(longer), len(is), f)
			}
		}
	}
	for _, more := range []int{1, 2, 3, 10000} {
		for name, v := range longTexts(api.MaxScript + more) {
			if text, e := value.Print(v); text != "" || e != api.ErrLong {
				t.Errorf("P4.5: %s: Print of %d bytes too many gives %d bytes, error %d", name, more, len(text), e)
			}
		}
	}
}

// P4.5: the whole of MaxCount items is too long, be they ever so short.
func TestPrintWide(t *testing.T) {
	if text, e := value.Print(append(list(s(1<<20)), many(1<<20, u(7))...)); text != "" || e != api.ErrLong {
		t.Errorf("P4.5: Print of MaxCount items gives %d bytes, error %d", len(text), e)
	}
}

// P4.6: the chapter's texts that are none's, and others of each sort.
func TestParseWrong(t *testing.T) {
	for text, at := range map[string]int{
		"01": 1, "18446744073709551616": 19, "[1,2]": 3, "[1, ]": 4, "": 0,
		"{}": 1, "<256:1>": 3, "truth": 3, "some": 4, "1 ": 1,
		" ": 0, " 1": 0, "-1": 0, "+1": 0, "1.0": 1, "1e3": 1, "0x1": 1, "1_0": 1, "\x001": 0, "1\x00": 1, "\xff": 0, "\xd9\xa1": 0, "1\n": 1,
		"True": 0, "tru": 3, "truee": 4, "true ": 4, "false1": 5, "fals": 4, "flase": 1, "t": 1, "f": 1,
		"n": 1, "no": 2, "non": 3, "none ": 4, "none 1": 4, "nome": 2, "sane": 1, "s": 1, "some ": 5, "some  1": 5, "some1": 4, "some, ": 4, "some\t1": 4, "some some": 9, "some some ": 10, "some ]": 5, "some none 1": 9, "[some": 5, "[some]": 5, "[some ]": 6, "[some 1 ]": 7,
		"[": 1, "]": 0, "}": 0, ">": 0, ",": 0, ":": 0, ", ": 0, "[,": 1, "[ ]": 1, "[ 1]": 1, "[1 ]": 2, "[1 , 2]": 2, "[1,": 3, "[1, ": 4, "[1,  2]": 4, "[1, 2": 5, "[1, 2,": 6, "[1, 2}": 5, "[1, 2>": 5, "[1]]": 3, "[1], ": 3, "[1] ": 3, "[[1]": 4, "[[], ": 5, "[[],]": 4, "[:": 1, "[1:": 2, "[}": 1, "[>": 1, "[][]": 2, "[]1": 2,
		"{": 1, "{ }": 1, "{]": 1, "{,": 1, "{1": 2, "{1]": 2, "{1,": 3, "{1, ": 4, "{1, }": 4, "{1} ": 3, "{1}}": 3, "{{}}": 2, "{[}": 2, "{[]": 3,
		"<": 1, "<>": 1, "<:1>": 1, "< 5:1>": 1, "<5": 2, "<5 :1>": 2, "<5>": 2, "<5,": 2, "<5:": 3, "<5: 1>": 3, "<5:>": 3, "<5:1": 4, "<5:1 >": 4, "<5:1, 2>": 4, "<5:1]": 4, "<5:1}": 4, "<5:1>>": 5, "<5:1>1": 5, "<-1:1>": 1, "<true:1>": 1, "<00:1>": 2, "<05:1>": 2, "<5::1>": 3, "<5:[1>": 5, "<5:<5:1>": 8,
		"1, 2": 1, "1]": 1, "1}": 1, "1>": 1, "1:": 1, "1[": 1, "1some ": 1, "1none": 1, "1true": 1, "true1": 4, "1{": 1, "1<": 1,
	} {
		if is, f := value.Parse(text); len(is) != 0 || f != fault(api.ErrText, at) {
			t.Errorf("P4.6: Parse(%q) = %v, %v, want ErrText at %d", text, is, f, at)
		}
	}
}

// P4.6: numbers with needless zeros, and around the greatest.
func TestParseNumbers(t *testing.T) {
	for _, n := range []string{"18446744073709551615", "18446744073709551609", "18446744073709551599", "9999999999999999999", "10000000000000000000", "9223372036854775808", "4294967296"} {
		want, _ := strconv.ParseUint(n, 10, 64)
		if is, f := value.Parse(n); !slices.Equal(is, list(u(want))) || f.Err != api.OK {
			t.Errorf("P4.6: Parse(%s) = %v, %v", n, is, f)
		}
	}
	for n, taken := range map[string]int{
		"18446744073709551616": 19, "18446744073709551617": 19, "18446744073709551620": 19, "18446744073709551700": 19, "20000000000000000000": 19, "99999999999999999999": 19, "36893488147419103232": 19,
		"184467440737095516150": 20, "184467440737095516151": 20, "100000000000000000000": 20, "999999999999999999999": 19, "18446744073709551615a": 20,
		"00": 1, "01": 1, "000000000000000000000": 1, "007": 1, "0a": 1, "10a": 2,
	} {
		for _, about := range []string{"", "[", "[1, ", "{", "some ", "<255:"} {
			if is, f := value.Parse(about + n); len(is) != 0 || f != fault(api.ErrText, len(about)+taken) {
				t.Errorf("P4.6: Parse(%s%s) = %v, %v, want ErrText at %d", about, n, is, f, len(about)+taken)
			}
		}
	}
	for tag := range 2600 {
		text := "<" + strconv.Itoa(tag) + ":1>"
		is, f := value.Parse(text)
		taken := 3
		if tag >= 1000 && tag/10 <= 255 {
			taken = 4
		}
		if tag <= 255 && !slices.Equal(is, list(c(uint64(tag)), u(1))) || tag > 255 && (len(is) != 0 || f != fault(api.ErrText, taken)) {
			t.Errorf("P4.6: Parse(%s) = %v, %v", text, is, f)
		}
	}
	for text, at := range map[string]int{"<18446744073709551616:1>": 4, "<18446744073709551873:1>": 4, "<0255:1>": 2, "<000:1>": 2, "<2550:1>": 4, "<4294967296:1>": 3} {
		if is, f := value.Parse(text); len(is) != 0 || f != fault(api.ErrText, at) {
			t.Errorf("P4.6: Parse(%s) = %v, %v, want ErrText at %d", text, is, f, at)
		}
	}
}

// P4.6: a struct has no field behind the last that it may have, a list has.
func TestParseFields(t *testing.T) {
	for _, field := range []string{"1", "[]", "[1, 2, 3]", "{1, 2}", "some none", "<1:{1}>"} {
		fields := strings.Repeat(field+", ", api.MaxFields-1) + field
		v, f := value.Parse("{" + fields + "}")
		if f.Err != api.OK || v[0] != st(api.MaxFields) || value.Check(v).Err != api.OK {
			t.Errorf("P4.6: MaxFields fields %s: %v", field, f)
		}
		for _, more := range []string{", 1}", ",", ", ", "]"} {
			if is, f := value.Parse("{" + fields + more); len(is) != 0 || f != fault(api.ErrText, 1+len(fields)) {
				t.Errorf("P4.6: MaxFields fields %s and %s: %v, %v, want ErrText at %d", field, more, is, f, 1+len(fields))
			}
		}
		if v, f := value.Parse("[" + fields + ", 1]"); f.Err != api.OK || v[0] != s(api.MaxFields+1) {
			t.Errorf("P4.6: a list of MaxFields + 1 items %s: %v", field, f)
		}
	}
}

// plainReader reads a text by recursion, and panics with the place of the first byte that no value's text goes on with.
type plainReader struct {
	text  string
	at    int
	nodes []api.Node
}

// noText: the place of a fault.
type noText int

func plainParse(text string) (v []api.Node, f api.Fault) {
	defer func() {
		if at, ok := recover().(noText); ok {
			v, f = nil, fault(api.ErrText, int(at))
		}
	}()
	r := &plainReader{text: text}
	r.value()
	if r.at < len(text) {
		panic(noText(r.at))
	}
	return r.nodes, api.Fault{}
}

func (r *plainReader) sees(c byte) bool { return r.at < len(r.text) && r.text[r.at] == c }

func (r *plainReader) want(word string) {
	for _, c := range []byte(word) {
		if !r.sees(c) {
			panic(noText(r.at))
		}
		r.at++
	}
}

func (r *plainReader) number(bits int) uint64 {
	n, from := uint64(0), r.at
	for r.at < len(r.text) {
		next, err := strconv.ParseUint(r.text[from:r.at+1], 10, bits)
		if err != nil || strconv.FormatUint(next, 10) != r.text[from:r.at+1] {
			break
		}
		n = next
		r.at++
	}
	if r.at == from {
		panic(noText(r.at))
	}
	return n
}

func (r *plainReader) kids(end string, most int) int {
	for k := 1; ; k++ {
		r.value()
		if k == most || !r.sees(',') {
			r.want(end)
			return k
		}
		r.want(", ")
	}
}

func (r *plainReader) value() {
	place := len(r.nodes)
	r.nodes = append(r.nodes, api.Node{})
	n := api.Node{Kind: api.NodeUint}
	switch {
	case r.sees('['):
		r.want("[")
		n = s(0)
		if r.sees(']') {
			r.want("]")
		} else {
			n = s(r.kids("]", api.MaxCount))
		}
	case r.sees('{'):
		r.want("{")
		n = st(r.kids("}", api.MaxFields))
	case r.sees('<'):
		r.want("<")
		n = c(r.number(8))
		r.want(":")
		r.kids(">", 1)
	case r.sees('s'):
		r.want("some ")
		n = o(1)
		r.value()
	case r.sees('n'):
		r.want("none")
		n = o(0)
	case r.sees('t'):
		r.want("true")
		n = b(1)
	case r.sees('f'):
		r.want("false")
		n = b(0)
	default:
		n.N = r.number(64)
	}
	r.nodes[place] = n
}

func wantParse(t *testing.T, text string) {
	t.Helper()
	v, f := plainParse(text)
	if is, g := value.Parse(text); !slices.Equal(is, v) || f != g {
		t.Fatalf("P4.6: Parse(%q) = %v, %v, want %v, %v", text, is, g, v, f)
	}
}

// P4.6: texts cut at every byte, and with each byte taken out, put in twice, and changed into every other.
func TestParseSpoilt(t *testing.T) {
	texts := []string{"[18446744073709551615, 255, <255:0>, <100:{0}>]", "{" + strings.Repeat("1, ", api.MaxFields-1) + "1}"}
	for text := range examples() {
		texts = append(texts, text)
	}
	for _, text := range texts {
		for i := range len(text) {
			is, f := value.Parse(text[:i])
			if printed, _ := value.Print(is); f != fault(api.ErrText, i) && (f != fault(api.OK, 0) || printed != text[:i]) {
				t.Errorf("P4.6: of %q, cut at %d, Parse = %v, %v", text, i, is, f)
			}
			wantParse(t, text[:i]+text[i+1:])
			wantParse(t, text[:i+1]+text[i:])
			for spoilt := range 256 {
				wantParse(t, text[:i]+string([]byte{byte(spoilt)})+text[i+1:])
			}
		}
	}
}

// P4.6: texts of pieces in random order, most of which go on rightly for a while.
func TestParseMixed(t *testing.T) {
	pieces := []string{"[", "]", "{", "}", "<", ">", ", ", ",", " ", ":", "0", "1", "25", "255", "256", "1844674407370955161", "<7:", "some ", "some", "none", "true", "false", "[]", "[1, ", "{2, ", "x"}
	random := rand.New(rand.NewSource(4))
	for range 200000 {
		var text strings.Builder
		for range 1 + random.Intn(9) {
			text.WriteString(pieces[random.Intn(len(pieces))])
		}
		wantParse(t, text.String())
	}
}

// textsOf: all values' texts of up to most bytes, by their lengths, whose numbers have no digits but 0 and 1.
func textsOf(most int) [][]string {
	texts, rows := make([][]string, most+1), make([][]string, most+1)
	numbers := make([][]string, most+1)
	for n := range uint64(1) << most {
		digits := strconv.FormatUint(n, 2)
		numbers[len(digits)] = append(numbers[len(digits)], digits)
	}
	for n := 1; n <= most; n++ {
		texts[n] = slices.Clone(numbers[n])
		for _, word := range []string{"true", "false", "none", "[]"} {
			if len(word) == n {
				texts[n] = append(texts[n], word)
			}
		}
		if n > 2 {
			for _, row := range rows[n-2] {
				texts[n] = append(texts[n], "["+row+"]", "{"+row+"}")
			}
		}
		if n > 5 {
			for _, kid := range texts[n-5] {
				texts[n] = append(texts[n], "some "+kid)
			}
		}
		for digits := 1; digits <= 3 && n > 3+digits; digits++ {
			for _, tag := range numbers[digits] {
				for _, kid := range texts[n-3-digits] {
					texts[n] = append(texts[n], "<"+tag+":"+kid+">")
				}
			}
		}
		rows[n] = slices.Clone(texts[n])
		for first := 1; first < n-2; first++ {
			for _, kid := range texts[first] {
				for _, row := range rows[n-2-first] {
					rows[n] = append(rows[n], kid+", "+row)
				}
			}
		}
	}
	return texts
}

// P4.6: all texts of up to four bytes (out of those that occur in texts, and x), held against all values' texts: the longest beginning that one of them begins with. No value's text that begins with four bytes needs more than twelve.
func TestParseAll(t *testing.T) {
	begins, whole := map[string]bool{"": true}, map[string]bool{}
	for _, texts := range textsOf(12) {
		for _, text := range texts {
			whole[text] = true
			for i := range min(len(text), 4) + 1 {
				begins[text[:i]] = true
			}
		}
	}
	var grow func(text string)
	grow = func(text string) {
		want := len(text)
		for !begins[text[:want]] {
			want--
		}
		is, f := value.Parse(text)
		if printed, _ := value.Print(is); whole[text] && (f != fault(api.OK, 0) || printed != text) {
			t.Fatalf("P4.6: Parse(%q) = %v, %v, want a value", text, is, f)
		}
		if !whole[text] && (len(is) != 0 || f != fault(api.ErrText, want)) {
			t.Fatalf("P4.6: Parse(%q) = %v, %v, want ErrText at %d", text, is, f, want)
		}
		if len(text) < 4 {
			for _, c := range "[]{}<>:, 01truefalsnomx" {
				grow(text + string(c))
			}
		}
	}
	grow("")
}

// P4.9: there and back; unlike values, unlike texts; which texts begin with another.
func TestThereAndBack(t *testing.T) {
	of := map[string][]api.Node{}
	for _, v := range smallValues(5) {
		text, e := value.Print(v)
		if e != api.OK {
			t.Fatalf("P4.5: Print(%v): error %d", v, e)
		}
		if other, there := of[text]; there {
			t.Fatalf("P4.9: %v and %v have one text, %q", v, other, text)
		}
		of[text] = v
		if is, f := value.Parse(text); !slices.Equal(is, v) || f != fault(api.OK, 0) {
			t.Fatalf("P4.9: Parse(%q), the text of %v, = %v, %v", text, v, is, f)
		}
	}
	begun := 0
	for text, v := range of {
		for i := range len(text) {
			is, f := value.Parse(text[:i])
			if f.Err != api.OK {
				continue
			}
			begun++
			if last := len(v) - 1; len(is) != len(v) || !slices.Equal(is[:last], v[:last]) || is[last].Kind != api.NodeUint || v[last].Kind != api.NodeUint {
				t.Errorf("P4.9: %v's text begins with %v's", v, is)
			}
		}
	}
	if begun == 0 {
		t.Errorf("no text begins with another")
	}
}

// P4.1: what Parse hands out is new memory, its spare room too.
func TestParseIsNew(t *testing.T) {
	text := "[1, {2, 3}, some 4, <5:6>]"
	first, _ := value.Parse(text)
	second, _ := value.Parse(text)
	held := slices.Clone(second)
	for i := range first[:cap(first)] {
		first[:cap(first)][i] = api.Node{Kind: 99, N: 99, Kids: 99}
	}
	third, _ := value.Parse(text)
	if !slices.Equal(second, held) || !slices.Equal(third, held) {
		t.Errorf("P4.1: what is written into a value is seen: %v, %v", second, third)
	}
}

// P4.1: values that are nested as deep as promised.
func TestTextDeep(t *testing.T) {
	for name, v := range map[string][]api.Node{"lists": nested(1<<16, s(1), s(0)), "structs": nested(1<<16, st(1), b(1)), "options": nested(1<<16, o(1), o(0)), "unions": nested(1<<16, c(255), u(0))} {
		text, e := value.Print(v)
		if is, f := value.Parse(text); e != api.OK || !slices.Equal(is, v) || f != fault(api.OK, 0) {
			t.Errorf("P4.9: %s: Print answers error %d, Parse %v", name, e, f)
		}
		if is, f := value.Parse(text[:len(text)-1]); len(is) != 0 || f != fault(api.ErrText, len(text)-1) {
			t.Errorf("P4.6: %s, cut: %d nodes, %v", name, len(is), f)
		}
	}
	for _, begin := range []string{"[", "{", "some ", "<0:"} {
		text := strings.Repeat(begin, 1<<16)
		if is, f := value.Parse(text); len(is) != 0 || f != fault(api.ErrText, len(text)) {
			t.Errorf("P4.6: %s, only begun: %d nodes, %v", begin, len(is), f)
		}
	}
}
