package tokens_test

import (
	"regexp"
	"slices"
	"strings"
	"testing"

	"mortise/api"
	"mortise/tokens"
)

// words: the grammar's words, as the chapter lists them.
func words() []string {
	return []string{"type", "u8", "u16", "u32", "u64", "bool", "varint", "vector", "list", "option", "union", "struct"}
}

var nameWhole = regexp.MustCompile(`\A[a-z][a-z0-9_]{0,31}\z`)

// checkWord holds Word and Name of a text against the chapter's words.
func checkWord(t *testing.T, s string) {
	t.Helper()
	word := slices.Contains(words(), s)
	if is := tokens.Word(s); is != word {
		t.Errorf("P5.3: Word(%.60q) of %d bytes = %v", s, len(s), is)
	}
	if is := tokens.Name(s); is != (nameWhole.MatchString(s) && !word) {
		t.Errorf("P5.4: Name(%.60q) of %d bytes = %v", s, len(s), is)
	}
}

// P5.3, P5.4: the chapter's worked examples.
func TestWordExamples(t *testing.T) {
	if !tokens.Word("list") || tokens.Word("lists") || tokens.Word("") {
		t.Errorf("P5.3: Word of list, lists, nothing = %v, %v, %v", tokens.Word("list"), tokens.Word("lists"), tokens.Word(""))
	}
	for _, s := range []string{"a", "a_1", "u9"} {
		if !tokens.Name(s) {
			t.Errorf("P5.4: Name(%q) is false", s)
		}
	}
	for _, s := range []string{"list", "u8", "1a", "_a", "", strings.Repeat("a", 33)} {
		if tokens.Name(s) {
			t.Errorf("P5.4: Name(%q) is true", s)
		}
	}
}

// P5.2, P5.3, P5.4: every word is one, is no name, and is cut like any name.
func TestWords(t *testing.T) {
	for _, w := range words() {
		if !tokens.Word(w) || tokens.Name(w) {
			t.Errorf("P5.3: Word(%q) = %v, Name = %v", w, tokens.Word(w), tokens.Name(w))
		}
		check(t, w, list(name(w, 0, len(w))), api.Fault{})
	}
}

// P5.3, P5.4: words with any byte more, less or changed, and other forms of them.
func TestWordsAlmost(t *testing.T) {
	for _, w := range words() {
		for _, s := range []string{strings.ToUpper(w), strings.ToUpper(w[:1]) + w[1:], w + w, w + "s", w + "_", w + "8", "_" + w, w + " ", w + "\n", w + "<", w + "\x00", "#" + w} {
			checkWord(t, s)
		}
		for p := range len(w) + 1 {
			checkWord(t, w[:p])
			checkWord(t, w[p:])
			for c := range 256 {
				b := string([]byte{byte(c)})
				checkWord(t, w[:p]+b+w[p:])
				if p < len(w) {
					checkWord(t, w[:p]+w[p+1:])
					checkWord(t, w[:p]+b+w[p+1:])
				}
			}
		}
		for _, v := range words() {
			checkWord(t, v+w)
			checkWord(t, v+" "+w)
		}
	}
	for _, s := range []string{"u0", "u1", "u4", "u64", "u65", "u128", "u08", "int", "map", "none", "some", "true"} {
		checkWord(t, s)
	}
}

// P5.4: all texts of one and two bytes, and every byte at every place of a name.
func TestNameBytes(t *testing.T) {
	checkWord(t, "")
	for c := range 256 {
		b := string([]byte{byte(c)})
		checkWord(t, b)
		for d := range 256 {
			checkWord(t, b+string([]byte{byte(d)}))
		}
		for _, s := range []string{"abc", "x_9", strings.Repeat("y", 31), strings.Repeat("y", 32)} {
			for p := range len(s) + 1 {
				checkWord(t, s[:p]+b+s[p:])
			}
		}
	}
	for _, s := range []string{"é", "aé", "ÿ", "a\u0430", "\u0430", "a\ufeff", "ａ"} {
		checkWord(t, s)
	}
}

// P5.4: names of every length about MaxName, and of very many bytes.
func TestNameLength(t *testing.T) {
	for _, tail := range []string{"a", "0", "_", "z_9"} {
		long := "q" + strings.Repeat(tail, 70000)
		for _, length := range []int{1, 2, 31, 32} {
			if !tokens.Name(long[:length]) {
				t.Errorf("P5.4: Name(%q) of %d bytes is false", long[:length], length)
			}
		}
		for _, length := range []int{33, 34, 64, 256, 257, 256 + 32, 65536, 65537, 65536 + 32, len(long)} {
			if tokens.Name(long[:length]) || tokens.Word(long[:length]) {
				t.Errorf("P5.4: Name of %d bytes is true", length)
			}
		}
	}
}

// P5.2, P5.4: a name is what Cut takes for one token, a TokName, and no word.
func TestNameIsCut(t *testing.T) {
	eachText([]string{"a", "u", "8", "0", "_", "=", " ", "#", "A", strings.Repeat("m", 15), "list"}, 4, func(s string) {
		l, f := tokens.Cut(s)
		one := f.Err == api.OK && len(l) == 1 && l[0] == name(s, 0, len(s))
		if is := tokens.Name(s); is != (one && !tokens.Word(s)) {
			t.Errorf("P5.4: Name(%q) = %v, but it is cut into %v, %v", s, is, l, f)
		}
		checkWord(t, s)
	})
}
