package plain_test

import (
	"bytes"
	"slices"
	"strings"
	"testing"

	"mortise/api"
)

// read: what the reading says of bytes of a type: a value's text, or an error.
type read struct {
	of, bytes string
	text      string
	f         api.Fault
	early     bool // the error is known when more may come; else it is OK then
}

// is: bytes that have a value.
func is(of, bytes, text string) read { return read{of: of, bytes: bytes, text: text} }

// early: bytes that show an error, whatever follows.
func early(of, bytes string, e api.Errno, at int) read {
	return read{of: of, bytes: bytes, f: fault(e, at), early: true}
}

// short: bytes that end too early, behind all of them.
func short(of, bytes string) read {
	return read{of: of, bytes: bytes, f: fault(api.ErrShort, len(strings.Fields(bytes)))}
}

// reads holds Decode, Prefix and the model against what is written.
func reads(t *testing.T, rows []read) {
	t.Helper()
	for _, c := range rows {
		s, last := built(t, c.of)
		b := hex(t, c.bytes)
		var v []api.Node
		if c.f.Err == api.OK {
			v = nodes(t, c.text)
		}
		front := api.Fault{}
		if c.early {
			front = c.f
		}
		decodes(t, s, last, b, v, c.f, front)
		decodesAll(t, s, last, b)
	}
}

// P12.3, P12.4: the chapter's worked examples, and those of the document's section 'Reading' and of its scripts.
func TestReadExamples(t *testing.T) {
	lists := "struct{a:list<struct{x:u32,y:u32},9>,b:list<u8,9>}"
	person := "struct{id:u32,name:list<u8,20>,ok:bool}"
	reads(t, []read{
		short("u16", "01"), is("u16", "01 02", "513"), early("u16", "01 02 03", api.ErrTail, 2),
		early("list<u16,2>", "01 00 02 00 03", api.ErrCount, 4),
		short("struct{a:list<u16,9>,b:u8}", "05 00 00 00 07 01"), early("struct{a:list<u16,9>,b:list<u8,9>}", "08 00 00 00 09 00 00 00 01 02", api.ErrShort, 9),
		early("struct{a:varint,b:u8}", "05 00 00 00 09 05 00", api.ErrTail, 6), early("struct{a:varint,b:varint}", "08 00 00 00 0a 00 00 00 05", api.ErrTail, 9),
		short("vector<varint,2>", "08 00 00 00 07"), early("vector<varint,2>", "08 00 00 00 07 00 00 00", api.ErrOffset, 4),
		early("list<varint,9>", "00 00 00 00", api.ErrOffset, 0), early("list<varint,9>", "28 00 00 00", api.ErrCount, 0),
		is("option<list<u8,9>>", "01", "some []"), early("option<list<u8,9>>", "00 05", api.ErrTail, 1), early("option<list<u8,9>>", "02", api.ErrTag, 0),

		short(lists, "08 00 00 00 0e 00 00 00 01 02 03"), early(lists, "08 00 00 00 0e 00 00 00 00 00 00 00 00 00", api.ErrShort, 14), early(lists, "08 00 00 00 0e 00 00 00 00 00 00 00 00 00 01 02", api.ErrShort, 14),
		is("struct{a:u8,b:list<u8,9>}", "01 05 00 00 00", "{1, []}"), early("struct{a:u8,b:list<u8,9>}", "01 06 00 00 00", api.ErrOffset, 1),
		short("list<list<u8,9>,9>", "08 00 00 00"), is("list<list<u8,9>,9>", "04 00 00 00", "[[]]"), short("list<list<u8,9>,9>", "06"), early("list<list<u8,9>,9>", "28 00 00 00", api.ErrCount, 0),
		short("varint", "80"), early("varint", "80 00", api.ErrForm, 1), early("varint", "01 02", api.ErrTail, 1), early("option<u8>", "00 00", api.ErrTail, 1), early("option<u8>", "02", api.ErrTag, 0),

		is(person, "07 00 00 00 09 00 00 00 01 68", "{7, [104], true}"), is(person, "07 00 00 00 09 00 00 00 01 68 ff", "{7, [104, 255], true}"), early(person, "07 00 00 00 09 00 00 00 02 68", api.ErrBool, 8), early(person, "07 00 00 00 08 00 00 00 01 68", api.ErrOffset, 4), short(person, "07 00 00 00 09"),
		early("list<option<u8>,2>", "0c 00 00 00", api.ErrCount, 0), early("list<option<u8>,2>", "08 00 00 00 07 00 00 00", api.ErrOffset, 4), early("list<option<u8>,2>", "08 00 00 00 09 00 00 00 01", api.ErrShort, 9),
		early("union{3:u16,200:option<varint>}", "c8 01 ac 02 00", api.ErrTail, 4), early("union{3:u16,200:option<varint>}", "04", api.ErrTag, 0),
	})
}

// times: a text of bytes, so many times.
func times(text string, n int) string { return strings.Repeat(text+" ", n) }

// P12.3, P12.4: uN, bool and varint: bytes that are missing, left over, or no form.
func TestReadLeaves(t *testing.T) {
	for _, c := range []struct {
		of    string
		bytes int
	}{{"u8", 1}, {"u16", 2}, {"u32", 4}, {"u64", 8}} {
		for n := range c.bytes {
			reads(t, []read{short(c.of, times("ff", n)), early(c.of, times("00", c.bytes+1+n), api.ErrTail, c.bytes)})
		}
	}
	reads(t, []read{
		short("bool", ""), is("bool", "00", "false"), is("bool", "01", "true"), early("bool", "01 01", api.ErrTail, 1), early("bool", "00 02", api.ErrTail, 1),
		short("varint", ""), is("varint", "7f", "127"), is("varint", "80 01", "128"), early("varint", "80 01 00", api.ErrTail, 2), early("varint", "00 00", api.ErrTail, 1), early("varint", "80 80 00", api.ErrForm, 2), early("varint", "ff 00 05", api.ErrForm, 1),
		short("varint", times("80", 9)), is("varint", times("80", 9)+"01", "9223372036854775808"), early("varint", times("80", 9)+"01 01", api.ErrTail, 10), early("varint", times("80", 9)+"00", api.ErrForm, 9), early("varint", times("ff", 9)+"02", api.ErrForm, 9), early("varint", times("80", 9)+"81", api.ErrForm, 9), early("varint", times("80", 10), api.ErrForm, 9), early("varint", times("80", 10)+"01", api.ErrForm, 9),
	})
	s := schema(boolean(), option(0))
	for c := 2; c < 256; c++ {
		decodes(t, s, 0, []byte{byte(c)}, nil, fault(api.ErrBool, 0), fault(api.ErrBool, 0))
		decodes(t, s, 1, []byte{byte(c), 0}, nil, fault(api.ErrTag, 0), fault(api.ErrTag, 0))
		decodes(t, s, 1, []byte{1, byte(c)}, nil, fault(api.ErrBool, 1), fault(api.ErrBool, 1))
	}
}

// P12.3, P12.4: a varint in a part whose end is known: it breaks off there, whatever lies behind.
func TestReadVarintInPart(t *testing.T) {
	two := "struct{a:varint,b:varint}"
	reads(t, []read{
		is(two, "08 00 00 00 09 00 00 00 05 06", "{5, 6}"), is(two, "08 00 00 00 0a 00 00 00 80 01 06", "{128, 6}"),
		early(two, "08 00 00 00 08 00 00 00", api.ErrShort, 8), early(two, "08 00 00 00 09 00 00 00 80", api.ErrShort, 9), early(two, "08 00 00 00 09 00 00 00 80 00", api.ErrShort, 9), early(two, "08 00 00 00 0a 00 00 00 80 80", api.ErrShort, 10), early(two, "08 00 00 00 0a 00 00 00 80 00", api.ErrForm, 9),
		short(two, "08 00 00 00 0a 00 00 00 80"), short(two, "08 00 00 00 0a 00 00 00"), early(two, "08 00 00 00 0a 00 00 00 05", api.ErrTail, 9), early(two, "08 00 00 00 ff ff ff ff 05", api.ErrTail, 9), short(two, "08 00 00 00 ff ff ff ff"),
		short(two, "08 00 00 00 09 00 00 00 05"), short(two, "08 00 00 00 09 00 00 00 05 80"), early(two, "08 00 00 00 09 00 00 00 05 06 07", api.ErrTail, 10), early(two, "08 00 00 00 13 00 00 00"+times(" 80", 9)+"02", api.ErrForm, 17),
	})
}

// P12.3, P12.4: vectors and lists of fixed items.
func TestReadItems(t *testing.T) {
	part := "struct{a:list<u8,2>,b:list<u16,2>}"
	reads(t, []read{
		short("vector<bool,2>", ""), short("vector<bool,2>", "01"), early("vector<bool,2>", "02", api.ErrBool, 0), early("vector<bool,2>", "01 02", api.ErrBool, 1), early("vector<bool,2>", "01 00 01", api.ErrTail, 2), is("vector<bool,2>", "01 00", "[true, false]"),
		is("list<bool,2>", "", "[]"), is("list<bool,2>", "01", "[true]"), is("list<bool,2>", "01 00", "[true, false]"), early("list<bool,2>", "01 02", api.ErrBool, 1), early("list<bool,2>", "00 01 05", api.ErrCount, 2), early("list<bool,2>", "02 01 00", api.ErrBool, 0),
		is("list<u16,2>", "", "[]"), short("list<u16,2>", "01"), is("list<u16,2>", "01 02", "[513]"), short("list<u16,2>", "01 02 03"), is("list<u16,2>", "01 02 03 04", "[513, 1027]"),
		// In a part: the end is known, so an item too many is known too, whether its byte has come or not.
		is(part, "08 00 00 00 0a 00 00 00 01 02", "{[1, 2], []}"), is(part, "08 00 00 00 08 00 00 00", "{[], []}"), early(part, "08 00 00 00 0b 00 00 00 01 02", api.ErrCount, 10), early(part, "08 00 00 00 0b 00 00 00 01 02 03", api.ErrCount, 10), short(part, "08 00 00 00 0b 00 00 00 01"), short(part, "08 00 00 00 0a 00 00 00"), short(part, "08 00 00 00 09 00 00 00 01 02"), early(part, "08 00 00 00 08 00 00 00 01 00 02 00 03", api.ErrCount, 12),
		early("struct{a:list<u16,2>,b:list<u8,2>}", "08 00 00 00 0b 00 00 00 01 00 02", api.ErrShort, 11), early("struct{a:list<u16,1>,b:list<u8,2>}", "08 00 00 00 0b 00 00 00 01 00", api.ErrCount, 10),
		early("list<list<u8,1>,2>", "08 00 00 00 0a 00 00 00 01", api.ErrCount, 9), is("list<list<u8,1>,2>", "08 00 00 00 09 00 00 00 01 02", "[[1], [2]]"), early("list<list<u8,1>,2>", "08 00 00 00 09 00 00 00 01 02 03", api.ErrCount, 10),
	})
}

// P12.3, P12.4: the offsets of structs: too small, too great, not in order, above the end.
func TestReadOffsets(t *testing.T) {
	one := "struct{a:u8,b:list<u8,9>,c:u16}" // fixed part: 7
	three := "struct{a:list<u8,9>,b:u8,c:list<u8,9>,d:list<u8,9>}"
	inner := "struct{a:struct{x:list<u8,9>,y:u32},b:list<u8,9>}"
	pair := "struct{a:struct{x:list<u8,9>,y:list<u8,9>},b:list<u8,9>}"
	reads(t, []read{
		is(one, "01 07 00 00 00 02 00 09", "{1, [9], 2}"), early(one, "01 06 00 00 00", api.ErrOffset, 1), early(one, "01 08 00 00 00", api.ErrOffset, 1), early(one, "01 00 00 00 00", api.ErrOffset, 1), early(one, "01 07 01 00 00", api.ErrOffset, 1), early(one, "01 07 00 00 01", api.ErrOffset, 1), early(one, "01 ff ff ff ff", api.ErrOffset, 1), short(one, "01 06 00 00"), short(one, "01 ff ff ff"), short(one, "01 07 00 00 00 02"),
		is(three, "0d 00 00 00 05 0d 00 00 00 0d 00 00 00", "{[], 5, [], []}"), is(three, "0d 00 00 00 05 0e 00 00 00 0e 00 00 00 07", "{[7], 5, [], []}"), is(three, "0d 00 00 00 05 0e 00 00 00 0f 00 00 00 07 08 09", "{[7], 5, [8], [9]}"),
		early(three, "0d 00 00 00 05 0c 00 00 00", api.ErrOffset, 5), early(three, "0d 00 00 00 05 00 00 00 00", api.ErrOffset, 5), early(three, "0d 00 00 00 05 0f 00 00 00 0e 00 00 00", api.ErrOffset, 9), early(three, "0d 00 00 00 05 ff ff ff ff fe ff ff ff", api.ErrOffset, 9), short(three, "0d 00 00 00 05 ff ff ff ff ff ff ff ff 01"), early(three, "0d 00 00 00 05 ff ff ff ff ff ff ff ff 01 02 03 04 05 06 07 08 09", api.ErrCount, 22),
		is(inner, "08 00 00 00 10 00 00 00 08 00 00 00 07 00 00 00", "{{[], 7}, []}"), early(inner, "08 00 00 00 0e 00 00 00 08 00 00 00", api.ErrOffset, 8), early(inner, "08 00 00 00 0b 00 00 00 08 00 00 00", api.ErrShort, 11), early(inner, "08 00 00 00 0c 00 00 00 08 00 00 00", api.ErrOffset, 8), early(inner, "08 00 00 00 08 00 00 00", api.ErrShort, 8), short(inner, "08 00 00 00 0e 00 00 00 08 00 00"),
		is(pair, "08 00 00 00 12 00 00 00 08 00 00 00 0a 00 00 00 01 02 03", "{{[1, 2], []}, [3]}"), early(pair, "08 00 00 00 12 00 00 00 08 00 00 00 0b 00 00 00", api.ErrOffset, 12), early(pair, "08 00 00 00 12 00 00 00 08 00 00 00 07 00 00 00", api.ErrOffset, 12), early(pair, "08 00 00 00 12 00 00 00 08 00 00 00 ff ff ff ff", api.ErrOffset, 12), short(pair, "08 00 00 00 12 00 00 00 08 00 00 00 09 00 00 00 01"),
		// Behind an option's byte an offset is counted from the struct, not from the option.
		early("option<struct{a:list<u8,9>}>", "01 05 00 00 00", api.ErrOffset, 1), is("option<struct{a:list<u8,9>}>", "01 04 00 00 00 07", "some {[7]}"),
		early("vector<list<u8,9>,2>", "04 00 00 00", api.ErrOffset, 0), early("vector<list<u8,9>,2>", "0c 00 00 00", api.ErrOffset, 0), early("vector<list<u8,9>,2>", "09 00 00 00", api.ErrOffset, 0), early("vector<list<u8,9>,2>", "00 00 00 00", api.ErrOffset, 0), is("vector<list<u8,9>,2>", "08 00 00 00 08 00 00 00", "[[], []]"), short("vector<list<u8,9>,2>", ""), short("vector<list<u8,9>,2>", "08 00 00 00 08 00 00"),
	})
}

// P12.3, P12.4: lists of variable items: what their first offset may be, with an open end and a known one.
func TestReadListOfVariable(t *testing.T) {
	open := "list<varint,9>"
	part := "struct{a:list<varint,9>,b:list<u8,9>}"
	rows := []read{
		is(open, "", "[]"), is(open, "04 00 00 00 05", "[5]"), short(open, "24 00 00 00"), early(open, "28 00 00 00", api.ErrCount, 0), early(open, "fc ff ff ff", api.ErrCount, 0), short(open, "fd ff ff"), short(open, "04 00 00 00"), early(open, "04 00 00 00 05 06", api.ErrTail, 5),
		// A wrong offset goes ahead of too many items.
		early(open, "29 00 00 00", api.ErrOffset, 0), early(open, "fd ff ff ff", api.ErrOffset, 0),
		is(part, "08 00 00 00 08 00 00 00 07", "{[], [7]}"), is(part, "08 00 00 00 0d 00 00 00 04 00 00 00 05 07", "{[5], [7]}"),
		early(part, "08 00 00 00 0b 00 00 00 04 00 00", api.ErrShort, 11), early(part, "08 00 00 00 0c 00 00 00 08 00 00 00", api.ErrOffset, 8), early(part, "08 00 00 00 0c 00 00 00 04 00 00 00", api.ErrShort, 12), early(part, "08 00 00 00 0f 00 00 00 08 00 00 00", api.ErrOffset, 8), early(part, "08 00 00 00 10 00 00 00 08 00 00 00 08 00 00 00", api.ErrShort, 16), early(part, "08 00 00 00 ff 00 00 00 28 00 00 00", api.ErrCount, 8), early(part, "08 00 00 00 2f 00 00 00 28 00 00 00", api.ErrOffset, 8), early(part, "08 00 00 00 30 00 00 00 28 00 00 00", api.ErrCount, 8), early(part, "08 00 00 00 ff 00 00 00 00 00 00 00", api.ErrOffset, 8),
		early(part, "08 00 00 00 0e 00 00 00 04 00 00 00 05", api.ErrTail, 13), early(part, "08 00 00 00 13 00 00 00 08 00 00 00 0c 00 00 00", api.ErrOffset, 12), short(part, "08 00 00 00 13 00 00 00 08 00 00 00 0b 00 00 00"),
		early("list<list<u8,9>,9>", "0c 00 00 00 0e 00 00 00 0d 00 00 00", api.ErrOffset, 8), short("list<list<u8,9>,9>", "08 00 00 00 09 00 00 00"), is("list<list<u8,9>,9>", "08 00 00 00 08 00 00 00", "[[], []]"), is("list<list<u8,9>,9>", "08 00 00 00 09 00 00 00 01", "[[1], []]"), early("list<list<u8,9>,9>", "08 00 00 00 07 00 00 00", api.ErrOffset, 4),
		is("list<list<u8,9>,1>", "04 00 00 00", "[[]]"), early("list<list<u8,9>,1>", "08 00 00 00", api.ErrCount, 0),
	}
	for _, o := range []string{"00", "01", "02", "03", "05", "06", "07", "09", "21", "22", "23", "25"} {
		rows = append(rows, short(open, o+" 00 00"), early(open, o+" 00 00 00", api.ErrOffset, 0))
	}
	reads(t, rows)
}

// P12.3, P12.4: options and unions, alone and in parts.
func TestReadChoices(t *testing.T) {
	union := "union{3:u16,200:list<bool,2>,0:option<u8>}"
	part := "struct{a:option<u16>,b:list<u8,9>}"
	arms := "struct{a:union{3:u16,200:list<bool,2>},b:list<u8,9>}"
	reads(t, []read{
		short("option<u8>", ""), short("option<u8>", "01"), early("option<u8>", "ff", api.ErrTag, 0), early("option<u8>", "01 05 06", api.ErrTail, 2), early("option<option<u8>>", "01 02", api.ErrTag, 1), early("option<option<u8>>", "01 00 00", api.ErrTail, 2), early("option<varint>", "01 80 00", api.ErrForm, 2),
		short(union, ""), early(union, "04", api.ErrTag, 0), early(union, "01", api.ErrTag, 0), early(union, "c9", api.ErrTag, 0), short(union, "03"), short(union, "03 01"), early(union, "03 01 02 03", api.ErrTail, 3), is(union, "c8", "<200:[]>"), is(union, "c8 01 00", "<200:[true, false]>"), early(union, "c8 02", api.ErrBool, 1), early(union, "c8 00 01 01", api.ErrCount, 3), is(union, "00 00", "<0:none>"), is(union, "00 01 07", "<0:some 7>"), early(union, "00 02", api.ErrTag, 1),
		is(part, "08 00 00 00 09 00 00 00 00", "{none, []}"), early(part, "08 00 00 00 0a 00 00 00 00", api.ErrTail, 9), early(part, "08 00 00 00 0a 00 00 00 01 05", api.ErrShort, 10), early(part, "08 00 00 00 08 00 00 00", api.ErrShort, 8), is(part, "08 00 00 00 0b 00 00 00 01 05 06 07", "{some 1541, [7]}"), early(part, "08 00 00 00 0c 00 00 00 01 05 06", api.ErrTail, 11), early(part, "08 00 00 00 09 00 00 00 01", api.ErrShort, 9),
		is(arms, "08 00 00 00 09 00 00 00 c8", "{<200:[]>, []}"), early(arms, "08 00 00 00 0a 00 00 00 03 05", api.ErrShort, 10), early(arms, "08 00 00 00 0c 00 00 00 03 05 06", api.ErrTail, 11), early(arms, "08 00 00 00 0c 00 00 00 c8 00 01", api.ErrCount, 11), early(arms, "08 00 00 00 0c 00 00 00 05", api.ErrTag, 8),
	})
}

// P12.3: of several errors the one that the reading comes to first.
func TestReadOrder(t *testing.T) {
	mixed := "struct{a:bool,b:varint,c:bool}" // fixed part: 6
	two := "vector<option<u8>,2>"
	reads(t, []read{
		early(mixed, "02 00 00 00 00 02", api.ErrBool, 0), early(mixed, "01 07 00 00 00 02", api.ErrOffset, 1), early(mixed, "01 06 00 00 00 02 80 00", api.ErrBool, 5), early(mixed, "01 06 00 00 00 01 80 00", api.ErrForm, 7), early(mixed, "01 06 00 00 00 01 80 01 00", api.ErrTail, 8), short(mixed, "01 07 00 00"),
		early("struct{a:varint,b:option<u8>}", "08 00 00 00 09 00 00 00 80 02", api.ErrShort, 9), early("struct{a:varint,b:option<u8>}", "08 00 00 00 0a 00 00 00 05 07 02", api.ErrTail, 9), early("struct{a:varint,b:option<u8>}", "08 00 00 00 0a 00 00 00 80 00 02", api.ErrForm, 9), early("struct{a:varint,b:option<u8>}", "08 00 00 00 07 00 00 00 80 00 02", api.ErrOffset, 4),
		early(two, "08 00 00 00 09 00 00 00 02 02", api.ErrTag, 8), early(two, "08 00 00 00 09 00 00 00 00 02", api.ErrTag, 9), early(two, "08 00 00 00 0a 00 00 00 00 00 02", api.ErrTail, 9), early(two, "08 00 00 00 07 00 00 00 02 02", api.ErrOffset, 4), early(two, "07 00 00 00 06 00 00 00 02 02", api.ErrOffset, 0),
		early("list<bool,1>", "02 02", api.ErrBool, 0), early("list<bool,1>", "01 02", api.ErrCount, 1),
		early("struct{a:vector<bool,2>,b:bool}", "01 02 02", api.ErrBool, 1), early("struct{a:list<bool,1>,b:bool,c:list<bool,1>}", "09 00 00 00 02 08 00 00 00", api.ErrBool, 4), early("struct{a:list<bool,1>,b:bool,c:list<bool,1>}", "09 00 00 00 01 08 00 00 00", api.ErrOffset, 5),
	})
}

// P12.3, P12.4: fixed parts that no offset can tell: their length is not taken modulo anything.
func TestReadHugeFixedPart(t *testing.T) {
	gigs := "struct{a:varint,b:vector<vector<u8,1048576>,4096>}"                     // 4 + 2^32
	half := "struct{a:varint,b:vector<vector<u8,1048576>,2048>}"                     // 4 + 2^31
	all := "struct{a:varint,b:vector<vector<u8,1048576>,4095>,c:vector<u8,1048571>}" // 2^32 - 1
	vectors := strings.Repeat("vector<", 7) + "u64" + strings.Repeat(",1048576>", 7)
	huge := "struct{a:varint,b:" + vectors + ",c:u64}"
	rows := []read{short(half, "04 00 00 80"), early(half, "04 00 00 00", api.ErrOffset, 0), early(half, "03 00 00 80", api.ErrOffset, 0), short(half, "04 00 00 80 01 02"), short(all, "ff ff ff ff"), early(all, "fe ff ff ff", api.ErrOffset, 0), short(vectors, "01 02 03"), early("vector<vector<varint,1048576>,1048576>", "04 00 00 00", api.ErrOffset, 0), short("vector<vector<varint,1048576>,1048576>", "00 00 40 00")}
	for _, o := range []string{"00 00 00 00", "04 00 00 00", "08 00 00 00", "0c 00 00 00", "ff ff ff ff", "fc ff ff ff", "00 00 00 40", "00 00 00 80"} {
		rows = append(rows, early(gigs, o, api.ErrOffset, 0), early(huge, o, api.ErrOffset, 0), early(huge, o+" 01", api.ErrOffset, 0), short(huge, o[:8]))
		// Several of the greatest size: their sum is above all that can be held.
		for _, more := range []string{"b:h", "b:h,c:h", "b:h,c:h,d:h", "b:h,c:h,d:h,e:h", "b:h,c:h,d:h,e:h,f:varint"} {
			rows = append(rows, early("struct{a:varint,"+strings.ReplaceAll(more, ":h", ":"+vectors)+"}", o, api.ErrOffset, 0))
		}
	}
	reads(t, rows)
}

// P12.3, P12.4: one item more than the greatest number, and the last of very many offsets.
func TestReadGreat(t *testing.T) {
	t.Parallel()
	s := great()
	same := func(of int, b []byte, e api.Errno, at int) {
		t.Helper()
		decodes(t, s, of, b, nil, fault(e, at), fault(e, at))
	}
	same(3, make([]byte, 1<<20+1), api.ErrCount, 1<<20)
	same(3, make([]byte, 1<<20+9), api.ErrCount, 1<<20)
	same(12, slices.Concat(make([]byte, 1<<20-1), []byte{2}), api.ErrBool, 1<<20-1)
	same(12, slices.Concat(make([]byte, 1<<20), []byte{2}), api.ErrCount, 1<<20)
	same(4, make([]byte, 1<<23+1), api.ErrTail, 1<<23)
	decodes(t, s, 4, make([]byte, 1<<23-1), nil, fault(api.ErrShort, 1<<23-1), api.Fault{})
	same(5, lowFirst(1<<22+4, 4), api.ErrCount, 0)
	same(6, lowFirst(1<<22+4, 4), api.ErrOffset, 0)
	same(6, lowFirst(1<<22-4, 4), api.ErrOffset, 0)
	// Empty lists: their offsets are all the same.
	offsets := bytes.Repeat(lowFirst(1<<22, 4), 1<<20)
	decodes(t, s, 7, offsets, append([]api.Node{seqNode(1 << 20)}, slices.Repeat([]api.Node{seqNode(0)}, 1<<20)...), api.Fault{}, api.Fault{})
	decodes(t, s, 7, offsets[:len(offsets)-1], nil, fault(api.ErrShort, len(offsets)-1), api.Fault{})
	same(6, offsets, api.ErrShort, 1<<22)
	copy(offsets[len(offsets)-4:], lowFirst(1<<22-1, 4))
	same(7, offsets, api.ErrOffset, len(offsets)-4)
	copy(offsets[len(offsets)-4:], lowFirst(1<<22+1, 4))
	decodes(t, s, 7, offsets, nil, fault(api.ErrShort, len(offsets)), api.Fault{})
}

// P12.1: ErrSchema, at 0, goes ahead of ErrPlace, and that ahead of all that bytes and values say.
func TestAheadOfAll(t *testing.T) {
	inputs := [][]byte{nil, {}, {0}, {2}, {4, 0, 0, 0, 9}, {255, 255, 255}}
	values := [][]api.Node{nil, {}, {{}}, {boolNode(1)}, {uintNode(1 << 20)}, {optionNode(1), boolNode(1)}}
	refuses := func(s api.Schema, i int, e api.Errno) {
		t.Helper()
		for _, b := range inputs {
			decodes(t, s, i, b, nil, fault(e, 0), fault(e, 0))
		}
		for _, v := range values {
			encodes(t, s, i, v, nil, fault(e, 0))
		}
	}
	for _, s := range refused() {
		for _, i := range append(strangeNumbers(), len(s.Types)-1, len(s.Types)) {
			refuses(s, i, api.ErrSchema)
		}
	}
	for _, i := range strangeNumbers() {
		refuses(api.Schema{}, i, api.ErrPlace)
		refuses(api.Schema{Types: []api.Type{}, Roots: []api.Root{}}, i, api.ErrPlace)
	}
	for n := 1; n <= 64; n++ {
		s := schema(tower(n)...)
		refuses(s, -1, api.ErrPlace)
		refuses(s, n, api.ErrPlace)
		refuses(s, n+1, api.ErrPlace)
		decodes(t, s, n-1, append(bytes.Repeat([]byte{1}, n-1), 0), append(slices.Repeat([]api.Node{optionNode(1)}, n-1), boolNode(0)), api.Fault{}, api.Fault{})
		encodes(t, s, 0, []api.Node{boolNode(1)}, []byte{1}, api.Fault{})
	}
}
