package orchard_test

import (
	"math"
	"strings"
	"testing"

	"orchard/api"
	"orchard/orchard"
)

func TestFirstExample(t *testing.T) {
	v := list(number(-2), text("ab"), list(number(1), number(0)))
	b := "\xff\xff\xff\xfe\x00\x00\x00\x02ab\x00\x00\x00\x02\x01\x00"
	mustEncode(t, "(4t[?])", v, b)
	wrongBytes(t, "(4t[?])", b+"\x00")
	wrongBytes(t, "(4t[?])", b[:len(b)-1]+"\x02")
	for _, s := range []string{"", "()", "[44]", "44", "x", "[[[[[[[[[4]]]]]]]]]"} {
		wrongSchema(t, s)
	}
	rightSchema(t, "[[[[[[[[4]]]]]]]]")
}

// isSchema finds out by another way than the program's: whole types are written as 4 until nothing changes.
func isSchema(s string) bool {
	s = strings.NewReplacer("?", "4", "8", "4", "b", "4", "t", "4").Replace(s)
	for {
		next := strings.ReplaceAll(s, "[4]", "4")
		for n := 1; n < len(s); n++ {
			next = strings.ReplaceAll(next, "("+strings.Repeat("4", n)+")", "4")
		}
		if next == s {
			return s == "4"
		}
		s = next
	}
}

func TestAllShortSchemas(t *testing.T) {
	right := 0
	var try func(s string)
	try = func(s string) {
		if isSchema(s) {
			right++
			rightSchema(t, s)
		} else {
			wrongSchema(t, s)
		}
		if len(s) < 5 {
			for _, c := range "?48bt[]()x" {
				try(s + string(c))
			}
		}
	}
	try("")
	if want := 5 + 10 + 25 + 145; right != want { // of one letter, of three, of four, of five
		t.Errorf("%d short schemas, want %d", right, want)
	}
}

func TestSchemaEdges(t *testing.T) {
	around := func(n int, open, inner, end string) string {
		return strings.Repeat(open, n) + inner + strings.Repeat(end, n)
	}
	for _, s := range []string{
		"(" + strings.Repeat("4", api.MaxSchema-2) + ")",
		around(api.MaxDepth, "(", "4", ")"), around(4, "[(", "?", ")]"), around(4, "([", "8", "])"),
		"(" + around(api.MaxDepth-1, "[", "t", "]") + around(api.MaxDepth-1, "(", "b", ")") + "4)",
		"(" + strings.Repeat("[4]", 20) + ")",
	} {
		rightSchema(t, s)
	}
	for _, s := range []string{
		"(" + strings.Repeat("4", api.MaxSchema-1) + ")", strings.Repeat("4", api.MaxSchema),
		around(api.MaxDepth+1, "(", "4", ")"), "[" + around(4, "[(", "4", ")]") + "]",
		"(" + around(api.MaxDepth, "[", "t", "]") + "4)", "(4" + around(api.MaxDepth, "[", "t", "]") + ")",
		around(api.MaxDepth+1, "[", "", "]"), around(31, "(", "4", ")"),
		strings.Repeat("[", 1<<20), strings.Repeat("(4", 1<<20), around(1<<20, "[", "4", "]"),
		"(4", "[4", "(", "[", ")", "]", "[4)", "(4]", "(4))", "[4]]", "([4)]", "4 ", " 4", "T", "B", "0", "1", "\x00", "\xff", "é", "{4}", "(4,4)",
	} {
		wrongSchema(t, s)
	}
}

func TestNumbers(t *testing.T) {
	mustEncode(t, "?", number(0), "\x00")
	mustEncode(t, "?", number(1), "\x01")
	mustEncode(t, "4", number(0), "\x00\x00\x00\x00")
	mustEncode(t, "4", number(0x01020304), "\x01\x02\x03\x04")
	mustEncode(t, "4", number(-1), "\xff\xff\xff\xff")
	mustEncode(t, "4", number(math.MaxInt32), "\x7f\xff\xff\xff")
	mustEncode(t, "4", number(math.MinInt32), "\x80\x00\x00\x00")
	mustEncode(t, "8", number(0x0102030405060708), "\x01\x02\x03\x04\x05\x06\x07\x08")
	mustEncode(t, "8", number(-2), "\xff\xff\xff\xff\xff\xff\xff\xfe")
	mustEncode(t, "8", number(1<<31), "\x00\x00\x00\x00\x80\x00\x00\x00")
	mustEncode(t, "8", number(math.MaxInt64), "\x7f\xff\xff\xff\xff\xff\xff\xff")
	mustEncode(t, "8", number(math.MinInt64), "\x80\x00\x00\x00\x00\x00\x00\x00")
	for _, n := range []int{2, -1, 256, 257, math.MaxInt64, math.MinInt64} {
		wrongValue(t, "?", number(n))
	}
	for _, n := range []int{math.MaxInt32 + 1, math.MinInt32 - 1, 1 << 32, math.MaxInt64, math.MinInt64} {
		wrongValue(t, "4", number(n))
	}
	for b := 2; b < 256; b++ {
		wrongBytes(t, "?", string([]byte{byte(b)}))
	}
}

func TestBuffersAndTexts(t *testing.T) {
	most := strings.Repeat("x", api.MaxBytes)
	for _, schema := range []string{"b", "t"} {
		for _, s := range []string{"", "\x00", "a", "/a-b.c", most} {
			mustEncode(t, schema, text(s), counted(s))
		}
		for _, s := range []string{most + "x", strings.Repeat("x", 5000)} {
			wrongValue(t, schema, text(s))
			wrongBytes(t, schema, counted(s))
		}
		for _, b := range []string{"\xff\xff\xff\xff", "\x80\x00\x00\x00", "\x7f\xff\xff\xff", "\x00\x01\x00\x00", "\xff\xff\xff\xffa", four(2) + "a", four(1) + "ab", four(0) + "a"} {
			wrongBytes(t, schema, b)
		}
	}
	mustEncode(t, "t", text(strings.Repeat("é", api.MaxBytes/2)), counted(strings.Repeat("é", api.MaxBytes/2)))
	wrongValue(t, "t", text(strings.Repeat("é", api.MaxBytes/2)+"x")) // bytes count, not characters
}

func TestUTF8(t *testing.T) {
	for _, s := range []string{"\x00", "\x7f", "\u0080", "\u07ff", "\u0800", "\u0fff", "\ud7ff", "\ue000", "\ufeff", "\ufffd", "\uffff", "\U00010000", "\U000fffff", "\U0010ffff"} {
		for _, x := range []string{s, "a" + s, s + "a", s + s} {
			mustEncode(t, "t", text(x), counted(x))
			mustEncode(t, "b", text(x), counted(x))
		}
	}
	for _, s := range []string{
		"\x80", "\xbf", "\xc2", "\xdf", "\xe0\xa0", "\xe1", "\xf0\x90\x80", "\xf1\x80", "\xf4", // a piece of a character
		"\xc2\x7f", "\xc2\xc0", "\xe1\x80\x7f", "\xe1\x7f\x80", "\xf1\x80\x80\xc0", "\xf1\x80\x7f\x80",
		"\xc0\x80", "\xc0\xaf", "\xc1\xbf", "\xe0\x80\x80", "\xe0\x9f\xbf", "\xf0\x80\x80\x80", "\xf0\x8f\xbf\xbf", // not the shortest form
		"\xed\xa0\x80", "\xed\xaf\xbf", "\xed\xb0\x80", "\xed\xbf\xbf", "\xed\xa0\x80\xed\xb0\x80", // U+D800 to U+DFFF
		"\xf4\x90\x80\x80", "\xf5\x80\x80\x80", "\xf7\xbf\xbf\xbf", "\xf8\x88\x80\x80\x80", "\xfc\x84\x80\x80\x80\x80", "\xfe", "\xff", // above U+10FFFF
	} {
		for _, x := range []string{s, "a" + s, s + "a", "\U0010ffff" + s} {
			wrongValue(t, "t", text(x))
			wrongBytes(t, "t", counted(x))
			mustEncode(t, "b", text(x), counted(x))
		}
	}
	wrongValue(t, "(b[t])", list(text(""), list(text("a"), text("\xff"))))
	wrongBytes(t, "(b[t])", counted("")+four(2)+counted("a")+counted("\xff"))
}

// A character's bytes are all in one text: two texts do not make one.
func TestTextsEndWithACharacter(t *testing.T) {
	wrongValue(t, "(tt)", list(text("\xc3"), text("\xa9")))
	wrongBytes(t, "(tt)", counted("\xc3")+counted("\xa9"))
}

func TestVectors(t *testing.T) {
	mustEncode(t, "[4]", list(), four(0))
	mustEncode(t, "[4]", list(number(1), number(-1)), four(2)+"\x00\x00\x00\x01\xff\xff\xff\xff")
	mustEncode(t, "[[b]]", list(list(), list(text("a"))), four(2)+four(0)+four(1)+counted("a"))
	mustEncode(t, "[?]", list(make([]value, api.MaxList)...), four(32)+strings.Repeat("\x00", 32))
	wrongValue(t, "[?]", list(make([]value, api.MaxList+1)...))
	wrongValue(t, "[?]", list(make([]value, 1<<20)...))
	wrongBytes(t, "[?]", four(33)+strings.Repeat("\x00", 33))
	for _, b := range []string{"\xff\xff\xff\xff", "\x80\x00\x00\x00", "\x00\x01\x00\x01\x00", "\xff\xff\xff\xff\x00", four(2) + "\x00", four(1) + "\x00\x00", four(1) + "\x02", "\x00\x00\x01"} {
		wrongBytes(t, "[?]", b)
	}
	wrongValue(t, "[?]", list(number(0), number(2)))
	wrongValue(t, "[[?]]", list(list(make([]value, api.MaxList+1)...)))
}

func TestRecords(t *testing.T) {
	mustEncode(t, "(?)", list(number(1)), "\x01")
	mustEncode(t, "(?4(8)b)", list(number(1), number(2), list(number(3)), text("x")), "\x01"+four(2)+"\x00\x00\x00\x00\x00\x00\x00\x03"+counted("x"))
	mustEncode(t, "([?](?[?]))", list(list(), list(number(1), list(number(0)))), four(0)+"\x01"+four(1)+"\x00")
	wrongValue(t, "(?4)", list())
	wrongValue(t, "(?4)", list(number(1)))
	wrongValue(t, "(?4)", list(number(1), number(1), number(1)))
	wrongValue(t, "(?4)", list(number(2), number(1)))
	wrongValue(t, "(?4)", number(1))
	wrongValue(t, "(4b)", list(text("x"), number(1)))
	wrongValue(t, "((4))", list(number(1)))
	wrongValue(t, "(4)", list(list(number(1))))
	wrongBytes(t, "(?4)", "\x01\x00\x00\x00")
	wrongBytes(t, "(?4)", "\x02\x00\x00\x00\x00")
}

func TestWhatIsNotNamedIsNothing(t *testing.T) {
	empty := value{L: []value{}}
	for _, schema := range []string{"?", "4", "8", "b", "t", "[?]"} {
		if _, e := orchard.Encode(schema, empty); e != api.OK {
			t.Errorf("P3: Encode(%s, an empty list) = %d", schema, e)
		}
	}
	element := []value{{}}
	for _, schema := range []string{"?", "4", "8"} {
		wrongValue(t, schema, value{N: 1, S: "x"})
		wrongValue(t, schema, value{N: 1, L: element})
	}
	for _, schema := range []string{"b", "t"} {
		wrongValue(t, schema, value{S: "x", N: 1})
		wrongValue(t, schema, value{S: "x", N: -1})
		wrongValue(t, schema, value{S: "x", L: element})
	}
	for _, schema := range []string{"[?]", "(?)"} {
		wrongValue(t, schema, value{L: element, N: 1})
		wrongValue(t, schema, value{L: element, S: "x"})
		wrongValue(t, schema, list(value{S: "x"}))
	}
}

func TestAsLongAsAFrame(t *testing.T) {
	for _, last := range []int{194, 195, 196, 197, 200} {
		v, b := list(), ""
		for _, n := range []int{196, 196, 196, 196, last} {
			s := strings.Repeat("x", n)
			v.L, b = append(v.L, text(s)), b+counted(s)
		}
		if len(b) <= api.MaxFrame {
			mustEncode(t, "(bbbtt)", v, b)
		} else {
			wrongValue(t, "(bbbtt)", v)
			wrongBytes(t, "(bbbtt)", b)
		}
		if len(b)+4 <= api.MaxFrame {
			mustEncode(t, "[t]", v, four(5)+b)
		} else {
			wrongValue(t, "[t]", v)
			wrongBytes(t, "[t]", four(5)+b)
		}
	}
	rows := func(n int) value { return list(make([]value, n)...) }
	wide := list(rows(32), rows(32), rows(32), rows(28)) // 4 times 4 bytes, and 124 times 8
	wrongValue(t, "([8][8][8][8])", wide)
	wide.L[3] = rows(27)
	if b, e := orchard.Encode("([8][8][8][8])", wide); len(b) != 1000 || e != api.OK {
		t.Errorf("P3: 123 numbers in eight bytes, and 16: %d bytes, %d", len(b), e)
	}
	wrongBytes(t, "b", strings.Repeat("\x00", 1<<20))
}

func samples() map[string]value {
	return map[string]value{
		"?": number(1), "4": number(-5), "8": number(1 << 40), "b": text("\xff\x00"), "t": text("aé\U0010ffff"),
		"[t]":         list(text("a"), text(""), text("bc")),
		"(44tbt)":     list(number(1), number(5), text("/a"), text("x"), text("")),
		"(484(8844))": list(number(6), number(2), number(0), list(number(1), number(2), number(1), number(0))),
		"[([?]t)]":    list(list(list(number(1)), text("x")), list(list(), text(""))),
	}
}

func TestBytesThatEndEarlyOrGoOn(t *testing.T) {
	for schema, v := range samples() {
		b, e := orchard.Encode(schema, v)
		if e != api.OK {
			t.Fatalf("P3: Encode(%s, %v) = %d", schema, v, e)
		}
		mustEncode(t, schema, v, string(b))
		for i := range b {
			wrongBytes(t, schema, string(b[:i]))
		}
		for _, more := range []string{"\x00", "\x01", "\xff", "\x00\x00\x00\x00", string(b)} {
			wrongBytes(t, schema, string(b)+more)
		}
	}
}

// What Decode takes is just what Encode makes: whatever else it is given is refused, or gives these very bytes again.
func TestDecodeTakesNothingButWhatEncodeMakes(t *testing.T) {
	taken := map[string]int{}
	var try func(b string)
	try = func(b string) {
		for _, schema := range []string{"?", "4", "b", "[?]", "(?b)", "[b]"} {
			v, e := orchard.Decode(schema, []byte(b))
			if e == api.ErrBytes && isNothing(v) {
				continue
			}
			taken[schema]++
			if again, f := orchard.Encode(schema, v); e != api.OK || f != api.OK || string(again) != b {
				t.Fatalf("P4: Decode(%s, %x) = %v, %d, but that is %x, %d", schema, b, v, e, again, f)
			}
		}
		if len(b) < 8 {
			for _, c := range []string{"\x00", "\x01", "\x02"} {
				try(b + c)
			}
		}
	}
	try("")
	want := map[string]int{"?": 2, "4": 81, "b": 1 + 3 + 9, "[?]": 1 + 2 + 4, "(?b)": 2 * (1 + 3 + 9), "[b]": 1 + 1}
	for schema, n := range want {
		if taken[schema] != n {
			t.Errorf("P4: of %s %d were taken, want %d", schema, taken[schema], n)
		}
	}
}

// Lists that share their elements, or hold themselves, would never be gone through whole.
func TestValuesWithoutEndEnd(t *testing.T) {
	deep := list()
	for range api.MaxDepth {
		l := make([]value, api.MaxList)
		for i := range l {
			l[i] = deep
		}
		deep = list(l...)
	}
	wrongValue(t, "[[[[[[[[8]]]]]]]]", deep)
	wrongValue(t, "[[[[[[[[?]]]]]]]]", deep)
	round := make([]value, 2)
	round[0].L, round[1].L = round, round
	wrongValue(t, "[[[[[[[[?]]]]]]]]", list(round...))
	wrongValue(t, "((??)(??))", list(round...))
}
