package tokens_test

import (
	"math/big"
	"regexp"
	"slices"
	"strconv"
	"strings"
	"testing"
	"unsafe"

	"mortise/api"
	"mortise/tokens"
)

func fault(e api.Errno, at int) api.Fault { return api.Fault{Err: e, At: at} }

func name(text string, at, end int) api.Token {
	return api.Token{Kind: api.TokName, Text: text, At: at, End: end}
}

func number(n, at, end int) api.Token {
	return api.Token{Kind: api.TokNumber, N: n, At: at, End: end}
}

func mark(text string, at, end int) api.Token {
	return api.Token{Kind: api.TokMark, Text: text, At: at, End: end}
}

func list(l ...api.Token) []api.Token { return l }

// check tells where Cut's answer is another one than said.
func check(t *testing.T, text string, want []api.Token, f api.Fault) {
	t.Helper()
	if is, g := tokens.Cut(text); !slices.Equal(is, want) || g != f {
		t.Errorf("P5.2: Cut(%.60q) of %d bytes = %.300v, %v, want %.300v, %v", text, len(text), is, g, want, f)
	}
}

// allButPlaces: each token without its places.
func allButPlaces(l []api.Token) []api.Token {
	l = slices.Clone(l)
	for i := range l {
		l[i].At, l[i].End = 0, 0
	}
	return l
}

// The chapter's words as patterns; each is asked for at the front of what is left.
var (
	nothingSaid = regexp.MustCompile(`\A(?:[ \t\n]|#[^\n]*)+`)
	nameForm    = regexp.MustCompile(`\A[a-z][a-z0-9_]*`)
	numberForm  = regexp.MustCompile(`\A[0-9]+`)
	goodNumber  = regexp.MustCompile(`\A(?:0|[1-9][0-9]*)\z`)
	markForm    = regexp.MustCompile(`\A[=;<>,:{}]`)
)

// numberOf: by numbers of any size.
func numberOf(s string) (int, bool) {
	n, ok := new(big.Int).SetString(s, 10)
	if !ok || !goodNumber.MatchString(s) || n.Cmp(big.NewInt(2147483647)) > 0 {
		return 0, false
	}
	return int(n.Int64()), true
}

// cutByPatterns: Cut's answer by the words of P5.2.
func cutByPatterns(text string) ([]api.Token, api.Fault) {
	if len(text) > 65536 {
		return nil, fault(api.ErrLong, 0)
	}
	var out []api.Token
	for at := len(nothingSaid.FindString(text)); at < len(text); {
		rest := text[at:]
		s := nameForm.FindString(rest) + numberForm.FindString(rest) + markForm.FindString(rest)
		end := at + len(s)
		switch {
		case s == "":
			return nil, fault(api.ErrByte, at)
		case nameForm.MatchString(s):
			if len(s) > 32 {
				return nil, fault(api.ErrName, at)
			}
			out = append(out, name(s, at, end))
		case numberForm.MatchString(s):
			n, ok := numberOf(s)
			if !ok {
				return nil, fault(api.ErrNumber, at)
			}
			out = append(out, number(n, at, end))
		default:
			out = append(out, mark(s, at, end))
		}
		at = end + len(nothingSaid.FindString(text[end:]))
	}
	return out, api.Fault{}
}

// checkPlaces: P5.5, of a text that is cut.
func checkPlaces(t *testing.T, text string, l []api.Token) {
	t.Helper()
	end := 0
	for i, x := range l {
		if x.At >= x.End || x.At < end || x.End > len(text) {
			t.Fatalf("P5.5: %.60q: token %d, %v, begins ahead of %d or has no bytes", text, i, x, end)
		}
		if gap := text[end:x.At]; nothingSaid.FindString(gap) != gap {
			t.Errorf("P5.5: %.60q: ahead of token %d stands %q", text, i, gap)
		}
		end = x.End
		alone := x
		alone.At, alone.End = 0, x.End-x.At
		if is, f := tokens.Cut(text[x.At:x.End]); !slices.Equal(is, list(alone)) || f != fault(api.OK, 0) {
			t.Errorf("P5.5: %.60q: token %d by itself, %q, is %v, %v, want %v", text, i, text[x.At:x.End], is, f, alone)
		}
	}
	if gap := text[end:]; nothingSaid.FindString(gap) != gap {
		t.Errorf("P5.5: %.60q: behind the last token stands %q", text, gap)
	}
}

// checkFront: P5.7, of a text whose fault has the place p, with what may stand behind its front.
func checkFront(t *testing.T, text string, p int, behind []string) {
	t.Helper()
	front, f := tokens.Cut(text[:p])
	if f != fault(api.OK, 0) {
		t.Fatalf("P5.7: %.60q has a fault at %d, but its bytes ahead have one too: %v", text, p, f)
	}
	for _, more := range behind {
		whole, f := tokens.Cut(text[:p] + more)
		if f != fault(api.OK, 0) {
			continue
		}
		sure := len(front)
		if sure > 0 && front[sure-1].End == p {
			sure--
		}
		if len(whole) < len(front) || !slices.Equal(whole[:sure], front[:sure]) {
			t.Errorf("P5.7: %.60q: %v, with %.60q behind %v", text[:p], front, more, whole)
			continue
		}
		if sure < len(front) && (whole[sure].Kind != front[sure].Kind || whole[sure].At != front[sure].At || whole[sure].End < p) {
			t.Errorf("P5.7: %.60q: the last token %v is %v with %.60q behind", text[:p], front[sure], whole[sure], more)
		}
	}
}

// manyBehind: what may stand behind a front: every byte, every kind of token, blanks and remarks.
func manyBehind() []string {
	behind := []string{"", "a1_", "9", "99 9", "type a=u8;", "#", "#\n", "# \xff\nb", strings.Repeat(" ", 65536), strings.Repeat("a", 31)}
	for c := range 256 {
		behind = append(behind, string([]byte{byte(c)}))
	}
	return behind
}

// checkAll holds a text against the patterns, and against what follows.
func checkAll(t *testing.T, text string, behind []string) {
	t.Helper()
	want, f := cutByPatterns(text)
	check(t, text, want, f)
	switch f.Err {
	case api.OK:
		checkPlaces(t, text, want)
	case api.ErrByte, api.ErrNumber, api.ErrName:
		checkFront(t, text, f.At, behind)
	}
}

// P5.2: the chapter's worked examples.
func TestCutExamples(t *testing.T) {
	for _, text := range []string{"", " ", "# any"} {
		check(t, text, nil, api.Fault{})
	}
	check(t, "type a = u8;", list(name("type", 0, 4), name("a", 5, 6), mark("=", 7, 8), name("u8", 9, 11), mark(";", 11, 12)), api.Fault{})
	check(t, "a1_b<007", nil, fault(api.ErrNumber, 5))
	check(t, "0<10,2147483647", list(number(0, 0, 1), mark("<", 1, 2), number(10, 2, 4), mark(",", 4, 5), number(2147483647, 5, 15)), api.Fault{})
	check(t, "2147483648", nil, fault(api.ErrNumber, 0))
	check(t, "12ab", list(number(12, 0, 2), name("ab", 2, 4)), api.Fault{})
	check(t, "a A", nil, fault(api.ErrByte, 2))
	check(t, "_a", nil, fault(api.ErrByte, 0))
	check(t, "a-b", nil, fault(api.ErrByte, 1))
	check(t, "a \x0d b", nil, fault(api.ErrByte, 2))
	check(t, "a#b\x0ac", list(name("a", 0, 1), name("c", 4, 5)), api.Fault{})
	check(t, strings.Repeat("q", 33), nil, fault(api.ErrName, 0))
	check(t, " "+strings.Repeat("q", 33), nil, fault(api.ErrName, 1))
	check(t, strings.Repeat("q", 32)+"A", nil, fault(api.ErrByte, 32))
	check(t, strings.Repeat(" ", 65537), nil, fault(api.ErrLong, 0))
}

// P5.2: blanks and remarks say nothing, wherever they end.
func TestCutNothingSaid(t *testing.T) {
	for _, text := range []string{"\t", "\n", " \t\n \n\n\t", "#", "##", "#\n", "# a = 007 A \x00\xff", "# any\n", "#\n#\n", "\n#\n\t# #\n ", "#\t", "#\r", "#\r\n"} {
		check(t, text, nil, api.Fault{})
	}
	check(t, "#\na", list(name("a", 2, 3)), api.Fault{})
	check(t, "#\r\na", list(name("a", 3, 4)), api.Fault{})
	check(t, "# a\n\n#b\n7", list(number(7, 8, 9)), api.Fault{})
	check(t, "a#", list(name("a", 0, 1)), api.Fault{})
	check(t, "7#8", list(number(7, 0, 1)), api.Fault{})
	check(t, "7#8\n9", list(number(7, 0, 1), number(9, 4, 5)), api.Fault{})
	check(t, ";#;", list(mark(";", 0, 1)), api.Fault{})
	check(t, "a\tb\nc d", list(name("a", 0, 1), name("b", 2, 3), name("c", 4, 5), name("d", 6, 7)), api.Fault{})
	check(t, "# a\r007", nil, api.Fault{})
	check(t, "# a\n007", nil, fault(api.ErrNumber, 4))
}

// aloneOf: what a byte by itself is cut into; said byte by byte.
func aloneOf(c byte) ([]api.Token, api.Fault) {
	s := string([]byte{c})
	switch {
	case c == 0x20, c == 0x09, c == 0x0a, c == 0x23:
		return nil, api.Fault{}
	case 0x61 <= c && c <= 0x7a:
		return list(name(s, 0, 1)), api.Fault{}
	case 0x30 <= c && c <= 0x39:
		return list(number(int(c)-0x30, 0, 1)), api.Fault{}
	case c == 0x3d, c == 0x3b, c == 0x3c, c == 0x3e, c == 0x2c, c == 0x3a, c == 0x7b, c == 0x7d:
		return list(mark(s, 0, 1)), api.Fault{}
	}
	return nil, fault(api.ErrByte, 0)
}

// behindOf: what a token and a byte behind it are cut into, that doesn't belong to it.
func behindOf(first api.Token, c byte) ([]api.Token, api.Fault) {
	l, f := aloneOf(c)
	if f.Err != api.OK {
		return nil, fault(f.Err, first.End)
	}
	for i := range l {
		l[i].At, l[i].End = l[i].At+first.End, l[i].End+first.End
	}
	return append(list(first), l...), f
}

// P5.2: every byte alone, behind a name, a number and a mark, and in a remark.
func TestCutBytes(t *testing.T) {
	for i := range 256 {
		c, s := byte(i), string([]byte{byte(i)})
		want, f := aloneOf(c)
		check(t, s, want, f)
		letter, digit := 0x61 <= c && c <= 0x7a, 0x30 <= c && c <= 0x39
		if letter || digit || c == 0x5f {
			check(t, "ab"+s, list(name("ab"+s, 0, 3)), api.Fault{})
		} else {
			want, f = behindOf(name("ab", 0, 2), c)
			check(t, "ab"+s, want, f)
		}
		if digit {
			check(t, "12"+s, list(number(120+i-0x30, 0, 3)), api.Fault{})
		} else {
			want, f = behindOf(number(12, 0, 2), c)
			check(t, "12"+s, want, f)
		}
		want, f = behindOf(mark(">", 0, 1), c)
		check(t, ">"+s, want, f)
		check(t, "#"+s, nil, api.Fault{})
		check(t, "# ab"+s+"\n7", list(number(7, 6, 7)), api.Fault{})
		if c != '\n' {
			check(t, "# ab"+s+"= 007 A", nil, api.Fault{})
		}
		for _, ahead := range []string{" ", "a", "a ", "7", "7\n", "#\n", "_", "A", "a_"} {
			for _, behind := range []string{"", "a", "7", " ", "#", "\n", "_"} {
				checkAll(t, ahead+s+behind, nil)
			}
		}
	}
}

// P5.2: names by their length, whatever they are made of.
func TestCutNames(t *testing.T) {
	for _, s := range []string{"a", "z", "a_", "a0", "z9", "a__", "a_9z__", "type", "u8", "u9", "u128", "list1", "a1b2"} {
		check(t, s, list(name(s, 0, len(s))), api.Fault{})
	}
	for _, tail := range []string{"a", "z", "0", "9", "_", "_0z"} {
		long := "k" + strings.Repeat(tail, 65535)
		for _, length := range []int{2, 31, 32} {
			check(t, long[:length], list(name(long[:length], 0, length)), api.Fault{})
			check(t, " "+long[:length]+";", list(name(long[:length], 1, length+1), mark(";", length+1, length+2)), api.Fault{})
		}
		for _, length := range []int{33, 34, 64, 65, 256 + 32, 1000, 65535} {
			check(t, long[:length], nil, fault(api.ErrName, 0))
			check(t, ";"+long[:length], nil, fault(api.ErrName, 1))
			check(t, "7"+long[:length], nil, fault(api.ErrName, 1))
		}
		check(t, long[:65536], nil, fault(api.ErrName, 0))
		check(t, long[:32]+" "+long[:32], list(name(long[:32], 0, 32), name(long[:32], 33, 65)), api.Fault{})
		check(t, long[:32]+"#\n"+long[:33], nil, fault(api.ErrName, 34))
	}
}

// P5.2: numbers by their size and their first digit.
func TestCutNumbers(t *testing.T) {
	for _, n := range []int{0, 1, 9, 10, 11, 99, 100, 101, 65536, 999999999, 1000000000, 1999999999, 2147483639, 2147483640, 2147483646, 2147483647} {
		s := strconv.Itoa(n)
		check(t, s, list(number(n, 0, len(s))), api.Fault{})
		check(t, "<"+s+">", list(mark("<", 0, 1), number(n, 1, len(s)+1), mark(">", len(s)+1, len(s)+2)), api.Fault{})
		check(t, s+"a0", list(number(n, 0, len(s)), name("a0", len(s), len(s)+2)), api.Fault{})
		check(t, "0"+s, nil, fault(api.ErrNumber, 0))
	}
	wrong := []string{"00", "01", "007", "000", "0000000000000000000000001", "2147483648", "2147483649", "2147483650", "2147483657", "2150000000", "2200000000", "3000000000", "9999999999", "10000000000", "21474836470", "4294967295", "4294967296", "4294967297", "9223372036854775807", "9223372036854775808", "18446744073709551615", "18446744073709551616", "18446744073709551617", "36893488147419103232", "99999999999999999999", strings.Repeat("0", 65535), strings.Repeat("9", 65535), "1" + strings.Repeat("0", 65534)}
	for _, s := range wrong {
		check(t, s, nil, fault(api.ErrNumber, 0))
		check(t, ","+s, nil, fault(api.ErrNumber, 1))
		if len(s) < 1000 {
			check(t, "a "+s+"b", nil, fault(api.ErrNumber, 2))
			check(t, "#\n"+s+" 1", nil, fault(api.ErrNumber, 2))
		}
	}
	check(t, "0 0", list(number(0, 0, 1), number(0, 2, 3)), api.Fault{})
	check(t, "0_", nil, fault(api.ErrByte, 1))
	check(t, "0x10", list(number(0, 0, 1), name("x10", 1, 4)), api.Fault{})
	check(t, "-1", nil, fault(api.ErrByte, 0))
	check(t, "+1", nil, fault(api.ErrByte, 0))
	check(t, "1.5", nil, fault(api.ErrByte, 1))
}

// P5.2: every mark, and every two side by side: each by itself.
func TestCutMarks(t *testing.T) {
	const marks = "=;<>,:{}"
	for i := range len(marks) {
		first := mark(marks[i:i+1], 0, 1)
		check(t, marks[i:i+1], list(first), api.Fault{})
		for k := range len(marks) {
			second := marks[k : k+1]
			check(t, first.Text+second, list(first, mark(second, 1, 2)), api.Fault{})
			check(t, first.Text+" "+second, list(first, mark(second, 2, 3)), api.Fault{})
			check(t, first.Text+"a"+second, list(first, name("a", 1, 2), mark(second, 2, 3)), api.Fault{})
		}
	}
}

// P5.2: ErrLong goes ahead of all other faults; MaxText bytes are not too long.
func TestCutLong(t *testing.T) {
	for _, unit := range []string{" ", "\n", "#", "#\n", "a ", "a=", "7 ", ";", "{}<", "a", "0", "7", "A", "_", "\xff", "é"} {
		text := strings.Repeat(unit, 65537)[:65537]
		for _, length := range []int{65535, 65536} {
			want, f := cutByPatterns(text[:length])
			check(t, text[:length], want, f)
		}
		check(t, text, nil, fault(api.ErrLong, 0))
		check(t, text+text, nil, fault(api.ErrLong, 0))
		check(t, "A"+text, nil, fault(api.ErrLong, 0))
	}
	blanks := strings.Repeat(" ", 65535)
	check(t, blanks+"a", list(name("a", 65535, 65536)), api.Fault{})
	check(t, "a"+blanks, list(name("a", 0, 1)), api.Fault{})
	check(t, blanks+"A", nil, fault(api.ErrByte, 65535))
	check(t, blanks[:65503]+strings.Repeat("a", 33), nil, fault(api.ErrName, 65503))
	check(t, blanks[:65504]+strings.Repeat("a", 32), list(name(strings.Repeat("a", 32), 65504, 65536)), api.Fault{})
	check(t, blanks+"aa", nil, fault(api.ErrLong, 0))
}

// P5.2: of several faults the first one from the left, with its own place.
func TestCutFirstFault(t *testing.T) {
	faults := map[string]api.Errno{"A": api.ErrByte, "\x00": api.ErrByte, "00": api.ErrNumber, "2147483648": api.ErrNumber, strings.Repeat("b", 33): api.ErrName}
	for first, e := range faults {
		for second := range faults {
			for _, ahead := range []string{"", " ", "a=", "# A 00\n", "type x=u8;\n"} {
				check(t, ahead+first+" "+second, nil, fault(e, len(ahead)))
				check(t, ahead+first+"="+second+"=", nil, fault(e, len(ahead)))
				check(t, ahead+first+"#\n"+second, nil, fault(e, len(ahead)))
			}
		}
	}
	long := strings.Repeat("b", 33)
	check(t, "00"+long, nil, fault(api.ErrNumber, 0))
	check(t, "1"+long, nil, fault(api.ErrName, 1))
	check(t, long+"A", nil, fault(api.ErrName, 0))
	check(t, "A"+long, nil, fault(api.ErrByte, 0))
	check(t, "00A", nil, fault(api.ErrNumber, 0))
	check(t, "0A0", nil, fault(api.ErrByte, 1))
	check(t, "0 A 00", nil, fault(api.ErrByte, 2))
	check(t, "b1 A", nil, fault(api.ErrByte, 3))
}

// eachText calls do with all texts of up to most pieces out of a stock.
func eachText(stock []string, most int, do func(text string)) {
	var goOn func(text string, left int)
	goOn = func(text string, left int) {
		do(text)
		if left == 0 {
			return
		}
		for _, s := range stock {
			goOn(text+s, left-1)
		}
	}
	goOn("", most)
}

// P5.2, P5.5, P5.7: all small texts of bytes of all kinds.
func TestCutSmall(t *testing.T) {
	behind := []string{"", "b", "0", "5", "_", " ", "#", "\n", ";", "b0_ 5;#\n=", "5b", "#;\n5"}
	eachText([]string{"a", "_", "0", "7", "=", "}", " ", "#", "\n", "A"}, 5, func(text string) { checkAll(t, text, behind) })
}

// P5.2, P5.5, P5.7: all rows of a few pieces, the long ones and the great ones among them.
func TestCutPieces(t *testing.T) {
	behind := manyBehind()
	stock := []string{"list", "u64", strings.Repeat("n", 31), "0", "21474836", "48", "<", ":", "\t", "#\xff0", "\n", "\x00", "\x80"}
	eachText(stock, 3, func(text string) { checkAll(t, text, behind) })
}

// schema: a text with tokens of all kinds, at their edges.
func schema() string {
	return "type a=struct{x:u8,y_2:list<b,2147483647>};# 007\n\ttype b=union{0:bool,255:option<varint>};" + strings.Repeat("m", 32) + " 12ab 0 10=;<>,:{}type#"
}

// P5.6: the same tokens with other blanks and remarks between, ahead and behind.
func TestCutAgain(t *testing.T) {
	text := schema()
	first, f := tokens.Cut(text)
	if f != fault(api.OK, 0) || len(first) != 50 {
		t.Fatalf("P5.2: %d tokens, %v", len(first), f)
	}
	gaps := []string{" ", "\t", "\n", "  ", " \n\t", "#\n", "# type a = 007 A\xff\x00\n", "#\r\n", "##\n#\n", " #\n", "#\n\t", "\n#b\n "}
	for _, ahead := range append(gaps, "") {
		for _, behind := range gaps {
			again := ""
			for _, x := range first {
				again += ahead + text[x.At:x.End] + behind
			}
			second, f := tokens.Cut(again)
			if f != fault(api.OK, 0) || !slices.Equal(allButPlaces(second), allButPlaces(first)) {
				t.Errorf("P5.6: with %q ahead and %q behind each: %v, %v", ahead, behind, second, f)
				continue
			}
			checkPlaces(t, again, second)
			at := 0
			for i, x := range second {
				at += len(ahead)
				if length := first[i].End - first[i].At; x.At != at || x.End != at+length {
					t.Errorf("P5.6: with %q ahead and %q behind each: token %d from %d to %d, not %d", ahead, behind, i, x.At, x.End, at)
				}
				at = x.End + len(behind)
			}
		}
	}
}

// P5.6: of every row of tokens, the last one's remark ending with the text too.
func TestCutAgainSmall(t *testing.T) {
	stock := []string{"a", "a0_", "0", "70", "=", "{", "type", strings.Repeat("z", 32), "2147483647"}
	eachText([]string{"0", "1", "2", "3", "4", "5", "6", "7", "8"}, 3, func(row string) {
		var want []api.Token
		plain, other := "", ""
		for i := range len(row) {
			s := stock[row[i]-'0']
			l, _ := tokens.Cut(s)
			want = append(want, allButPlaces(l)...)
			plain += s + " "
			other += "#\n\t" + s + "# " + s + "\n"
		}
		for _, text := range []string{plain, other, plain + "#", strings.TrimSuffix(other, "\n"), strings.TrimSuffix(plain, " ")} {
			if l, f := tokens.Cut(text); f != fault(api.OK, 0) || !slices.Equal(allButPlaces(l), want) {
				t.Errorf("P5.6: Cut(%q) = %v, %v, want %v but for the places", text, l, f, want)
			}
		}
	})
}

// P5.5, P5.7: a longer text, cut off anywhere, and spoilt anywhere.
func TestCutFronts(t *testing.T) {
	text := schema()
	whole, _ := tokens.Cut(text)
	checkPlaces(t, text, whole)
	behind := append(manyBehind(), text, " "+text)
	for p := range len(text) + 1 {
		checkAll(t, text[:p], behind)
		for _, spoil := range []string{"A", "\xff", " 00", ";2147483648", "=" + strings.Repeat("a", 33)} {
			checkAll(t, text[:p]+spoil+text[p:], behind)
		}
	}
}

// P5.1: what is answered is new memory, its spare room too; what was answered before stays.
func TestCutIsNew(t *testing.T) {
	for _, text := range []string{"", "#", "a", "7;", "a b c", schema()} {
		first, _ := tokens.Cut(text)
		held := slices.Clone(first)
		second, _ := tokens.Cut(text)
		for i := range second[:cap(second)] {
			second[:cap(second)][i] = mark("?", 77, 78)
		}
		third, f := tokens.Cut(text)
		if !slices.Equal(first, held) || !slices.Equal(third, held) || f != fault(api.OK, 0) {
			t.Errorf("P5.1: what is written into the tokens of %q is seen: %v, %v, want %v", text, first, third, held)
		}
		for _, x := range third[len(third):cap(third)] {
			if x != (api.Token{}) {
				t.Errorf("P5.1: the spare room of the tokens of %q holds %v", text, x)
			}
		}
	}
}

// P5.1: the text is not kept: its bytes may be written over.
func TestCutKeepsNoText(t *testing.T) {
	b := []byte(schema())
	l, _ := tokens.Cut(unsafe.String(&b[0], len(b)))
	for i := range b {
		b[i] = '?'
	}
	want, f := cutByPatterns(schema())
	if !slices.Equal(l, want) || f != fault(api.OK, 0) {
		t.Errorf("P5.1: the tokens of a text whose bytes are written over are %v, want %v", l, want)
	}
}
