package json_test

import (
	"math/rand"
	"strings"
	"testing"

	"portolan/api"
	"portolan/json"
)

// told holds what Parse tells of a text against what is wanted.
func told(t *testing.T, s string, want json.Value) {
	t.Helper()
	v, at, e := json.Parse([]byte(s))
	if e != api.OK || at != 0 || exact(v) != exact(want) {
		t.Errorf("%.200q: %.200s, %d at %d", s, exact(v), e, at)
	}
	parses(t, s)
}

// refused holds Parse's error, and its place, against what is wanted.
func refused(t *testing.T, s string, wantAt int, want api.Errno) {
	t.Helper()
	v, at, e := json.Parse([]byte(s))
	if e != want || at != wantAt || exact(v) != exact(json.Value{}) {
		t.Errorf("%.200q: %d at %d, not %d at %d", s, e, at, want, wantAt)
	}
	parses(t, s)
}

// P13.2: values of each kind.
func TestParse(t *testing.T) {
	told(t, `{"b":[1,-20],"a":"x\u0041"}`, table(entry("b", list(whole(1), whole(-20))), entry("a", text("xA"))))
	told(t, "null", null)
	told(t, "true", truth(true))
	told(t, "false", truth(false))
	told(t, "0", whole(0))
	told(t, "-0", whole(0))
	told(t, "9223372036854775807", whole(1<<63-1))
	told(t, "-9223372036854775808", whole(-1<<63))
	told(t, `""`, text(""))
	told(t, "[]", list())
	told(t, "{}", table())
	told(t, `[[],{},[[]],""]`, list(list(), table(), list(list()), text("")))
	told(t, `{"":{"":{}}}`, table(entry("", table(entry("", table())))))
	// One key may be in many tables.
	told(t, `{"a":{"a":1},"b":[{"a":2},{"a":3}]}`, table(entry("a", table(entry("a", whole(1)))), entry("b", list(table(entry("a", whole(2))), table(entry("a", whole(3)))))))
}

// P13.2: blanks may stand around all signs and values, but not within them.
func TestBlanks(t *testing.T) {
	for _, b := range []string{" ", "\t", "\n", "\r", " \t\n\r"} {
		told(t, b+"1"+b, whole(1))
		told(t, strings.Join([]string{"", "[", "1", ",", "{", `"a"`, ":", "null", ",", `"b"`, ":", "[", "]", "}", "]", ""}, b), list(whole(1), table(entry("a", null), entry("b", list()))))
		refused(t, "-"+b+"1", 1, api.ErrForm)
		refused(t, "nu"+b+"ll", 2, api.ErrForm)
		refused(t, "1"+b+"2", 1+len(b), api.ErrForm)
		refused(t, b, len(b), api.ErrForm)
	}
	for _, b := range []string{"\v", "\f", "\x00", "\u00a0", "\u2003", "\ufeff", "/**/", "#"} {
		refused(t, b+"1", 0, api.ErrForm)
		refused(t, "1"+b, 1, api.ErrForm)
		refused(t, "["+b+"]", 1, api.ErrForm)
	}
}

// P13.2: ErrForm at the first byte with which no text can go on.
func TestForm(t *testing.T) {
	for _, c := range []struct {
		s  string
		at int
	}{
		{"1.5", 1}, {"01", 1}, {"[1,]", 3}, {"", 0}, {" ", 1}, {"-", 1}, {"--1", 1}, {"-x", 1}, {"-01", 2}, {"00", 1}, {"1e5", 1}, {"1E5", 1}, {"+1", 0}, {".5", 0}, {"0x1", 1}, {"1-", 1}, {"1_0", 1},
		{"n", 1}, {"nul", 3}, {"nulx", 3}, {"nulL", 3}, {"nullx", 4}, {"nullnull", 4}, {"tru", 3}, {"tRue", 1}, {"truetrue", 4}, {"fals", 4}, {"falze", 3}, {"False", 0}, {"x", 0}, {"'a'", 0}, {"NaN", 0},
		{"]", 0}, {"}", 0}, {",", 0}, {":", 0}, {"[", 1}, {"[ ", 2}, {"[1", 2}, {"[1,", 3}, {"[1, ", 4}, {"[1 2]", 3}, {"[1}", 2}, {"[}", 1}, {"[,", 1}, {"[,1]", 1}, {"[1,,2]", 3}, {"[1]]", 3}, {"[1:2]", 2}, {"[1],", 3},
		{"{", 1}, {"{1", 1}, {"{]", 1}, {"{,", 1}, {"{:", 1}, {"{null:1}", 1}, {"{a:1}", 1}, {`{"a"`, 4}, {`{"a"}`, 4}, {`{"a",`, 4}, {`{"a" 1`, 5}, {`{"a":`, 5}, {`{"a":}`, 5}, {`{"a":,`, 5}, {`{"a"::`, 5}, {`{"a":1`, 6}, {`{"a":1]`, 6}, {`{"a":1,`, 7}, {`{"a":1,}`, 7}, {`{"a":1,1`, 7}, {`{"a":1 "b"`, 7}, {`{"a":1:`, 6}, {`{"a":1}}`, 7}, {`{"a`, 3}, {`{"`, 2},
		{`"`, 1}, {`"a`, 2}, {`"a""b"`, 3}, {`"a"x`, 3}, {"\"a\n\"", 2}, {"\"\x00", 1}, {"\"\x1f\"", 1}, {"\"ab\t", 3}, {`["a`, 3},
		{"9223372036854775808", 0}, {"-9223372036854775809", 0}, {" 99999999999999999999", 1}, {"[1,99999999999999999999x", 3}, {"99999999999999999999.5", 0}, {`{"a":-` + strings.Repeat("9", 1000) + "}", 5},
	} {
		refused(t, c.s, c.at, api.ErrForm)
	}
}

// P13.2: escapes that may be.
func TestEscapes(t *testing.T) {
	told(t, `"\"\\\/\b\f\n\r\t"`, text("\"\\/\b\f\n\r\t"))
	told(t, `"\u0000\u001f\u007F\u00e9\uABCD\uabcd\uFFFF\ufffd"`, text("\x00\x1f\x7fé\uabcd\uabcd\uffff\ufffd"))
	told(t, `"\ud83d\ude00\uD83D\uDE00"`, text("😀😀"))
	told(t, `"\ud800\udc00\udbff\udfff\ud7ff\ue000"`, text("\U00010000\U0010ffff\ud7ff\ue000"))
	told(t, `"\u0041b\u00410\\u0041"`, text(`AbA0\u0041`))
	told(t, `"a/b`+"\x7f\u2028"+`"`, text("a/b\x7f\u2028"))
	told(t, `{"\u0022":1}`, table(entry(`"`, whole(1))))
}

// P13.2: an escape that may not be, or that is cut short, is refused at its \ (of surrogates the first one's).
func TestEscapesRefused(t *testing.T) {
	for _, escape := range []string{
		`\a`, `\x41`, `\'`, `\0`, `\U0041`, `\N`, `\ `, `\é`, "\\\n", "\\\x00", "\\\xff",
		`\u`, `\u0`, `\u00`, `\u004`, `\u004g`, `\ug041`, `\u 041`, `\u+041`, `\u-041`, `\u0_41`, `\u0x4`, `\u{41}`, `\uéa1`,
		`\udc00`, `\uDFFF`, `\udc00\udc00`, `\udc00\ud800`,
		`\ud800`, `\uDBFF`, `\ud800x`, `\ud800\n`, `\ud800\\`, `\ud800\u0041`, `\ud800\ud800`, `\ud800\udbff`, `\ud800\ue000`, `\ud800 \udc00`, `\ud800\udc0`, `\ud800\udc0g`, `\ud800\Udc00`, `\ud800udc00`,
	} {
		refused(t, `"`+escape+`"`, 1, api.ErrForm)
		refused(t, `["aé",{"b`+escape+`":1}]`, 10, api.ErrForm)
		if escape != `\u0` {
			refused(t, `"\t`+escape, 3, api.ErrForm)
		}
	}
	refused(t, `"\`, 1, api.ErrForm)
	refused(t, `"ab\u12`, 3, api.ErrForm)
	refused(t, `"\ud800\`, 1, api.ErrForm)
	refused(t, `"\"`, 3, api.ErrForm)
	refused(t, `"\ud800\udc00`, 13, api.ErrForm)
}

// P13.2: bytes that are no UTF-8 are refused at the first of them.
func TestNoUTF8(t *testing.T) {
	for _, bytes := range []string{"\x80", "\xbf", "\xc0\x80", "\xc1\xbf", "\xe2\x82", "\xe2", "\xe0\x80\x80", "\xed\xa0\x80", "\xed\xbf\xbf", "\xf0\x9f\x98", "\xf0\x80\x80\x80", "\xf4\x90\x80\x80", "\xf5\x80\x80\x80", "\xfe", "\xff"} {
		refused(t, `"aé`+bytes+`"`, 4, api.ErrForm)
		refused(t, `"aé`+bytes+`x"`, 4, api.ErrForm)
		refused(t, `"aé`+bytes, 4, api.ErrForm)
		refused(t, `{"`+bytes+`":1}`, 2, api.ErrForm)
		refused(t, "["+bytes+"]", 1, api.ErrForm)
	}
	told(t, "\"\ufffd\u0080\u07ff\u0800\ud7ff\ue000\U00010000\U0010ffff\"", text("\ufffd\u0080\u07ff\u0800\ud7ff\ue000\U00010000\U0010ffff"))
}

// P13.2: ErrThere at a key's first ", whatever its text is.
func TestThere(t *testing.T) {
	refused(t, `{"a":1,"a":2}`, 7, api.ErrThere)
	refused(t, `{"a":1, "\u0061":2}`, 8, api.ErrThere)
	refused(t, `{"\/":1,"/":2}`, 8, api.ErrThere)
	refused(t, `{"":1,"b":2,"":3}`, 12, api.ErrThere)
	refused(t, `{"a":{"a":1,"b":2},"a":1}`, 19, api.ErrThere)
	refused(t, `[{"a":1,"b":{"c":1,"c":1}},{]`, 19, api.ErrThere)
	// What is wrong behind it is told behind it, what is wrong ahead of it, or in it, ahead.
	refused(t, `{"a":1,"a"`, 7, api.ErrThere)
	refused(t, `{"a":1,"a"x`, 7, api.ErrThere)
	refused(t, `{"a":1,"a`, 9, api.ErrForm)
	refused(t, `{"a":01,"a":1}`, 6, api.ErrForm)
	refused(t, `{"a":1,"a":99999999999999999999}`, 7, api.ErrThere)
	refused(t, `{"a":99999999999999999999,"a":1}`, 5, api.ErrForm)
	told(t, `{"a":1,"A":2,"a ":3,"\u00e1":4,"a\u0301":5}`, table(entry("a", whole(1)), entry("A", whole(2)), entry("a ", whole(3)), entry("\u00e1", whole(4)), entry("a\u0301", whole(5))))
}

// P13.2: ErrDeep where a value is wanted within 32 others.
func TestDeepText(t *testing.T) {
	lists := func(many int) string { return strings.Repeat("[", many) }
	tables := func(many int) string { return strings.Repeat(`{"a":`, many) }
	told(t, lists(32)+strings.Repeat("]", 32), nested(list(), 31, false))
	told(t, lists(31)+"1"+strings.Repeat("]", 31), nested(whole(1), 31, false))
	told(t, strings.Repeat(`{"k":`, 31)+" { "+strings.Repeat("}", 32), nested(table(), 31, true))
	for _, behind := range []string{"1", "null", "[]", "[", "{}", `"a"`, "x", ",", "}", "\x00", "-", ""} {
		refused(t, lists(32)+behind, 32, api.ErrDeep)
		refused(t, lists(32)+" \n"+behind, 34, api.ErrDeep)
		refused(t, lists(31)+`{"a" : `+behind, 38, api.ErrDeep)
		refused(t, tables(32)+behind, 32*5, api.ErrDeep)
		refused(t, tables(31)+"["+behind, 31*5+1, api.ErrDeep)
	}
	refused(t, tables(32)+"]", 32*5, api.ErrDeep)
	refused(t, lists(100000), 32, api.ErrDeep)
	// A key is no value, and what is closed counts no more.
	refused(t, tables(31)+`{"a"`, 31*5+4, api.ErrForm)
	refused(t, tables(31)+`{1`, 31*5+1, api.ErrForm)
	refused(t, lists(32)+"],", 34, api.ErrForm)
	refused(t, lists(32)+"],1", 35, api.ErrForm)
	told(t, lists(30)+"[],[1]"+strings.Repeat("]", 30), nested(list(list(), list(whole(1))), 29, false))
	refused(t, lists(31)+"1,x", 33, api.ErrForm)
	refused(t, lists(30)+"x"+lists(40), 30, api.ErrForm)
}

// P13.2: ErrLong ahead of all else.
func TestLongText(t *testing.T) {
	blanks := strings.Repeat(" ", api.MaxBlob)
	if v, at, e := json.Parse([]byte(blanks[1:] + "1")); e != api.OK || at != 0 || v.N != 1 {
		t.Error(at, e)
	}
	if _, at, e := json.Parse([]byte(blanks + "1")); e != api.ErrLong || at != 0 {
		t.Error(at, e)
	}
	if _, at, e := json.Parse([]byte("x" + blanks)); e != api.ErrLong || at != 0 {
		t.Error(at, e)
	}
	if _, at, e := json.Parse([]byte(blanks)); e != api.ErrForm || at != api.MaxBlob {
		t.Error(at, e)
	}
	digits := strings.Repeat("9", api.MaxBlob)
	if _, at, e := json.Parse([]byte(digits)); e != api.ErrForm || at != 0 {
		t.Error(at, e)
	}
}

// P13.2: all short rows of what texts are made of, as the plain reading tells them.
func TestShortTexts(t *testing.T) {
	const signs = "[]{},:\"a10-\\ "
	var rows func(s string, more int)
	rows = func(s string, more int) {
		parses(t, s)
		for k := range len(signs) {
			if more > 0 {
				rows(s+signs[k:k+1], more-1)
			}
		}
	}
	rows("", 4)
	rows(`{"a":`, 3)
	rows(`{"a":1,`, 4)
	rows(`[1`, 4)
}

// P13.2: texts as others may write them, cut short, and with bytes changed.
func TestAnyText(t *testing.T) {
	random := rand.New(rand.NewSource(13))
	parts := []string{"", "[", "]", "{", "}", ",", ":", "\"", "\\", "0", "1", "-", "9999999999999999999", "\x00", "\xff", "é", " ", "\n", "x", "null", "true", `\u`, `\ud800`, `\udc00`, `"a":1`, "1.5", strings.Repeat("[", 30), strings.Repeat(`{"a":`, 30)}
	for range 3000 {
		v := anyValue(random, 5)
		s := written(random, v)
		told(t, s, v)
		for range 10 {
			from := random.Intn(len(s) + 1)
			to := from + min(random.Intn(3), len(s)-from)
			parses(t, s[:from])
			parses(t, s[:from]+parts[random.Intn(len(parts))]+s[to:])
		}
	}
}

// P13.2: what is told is no piece of what is handed in, which is only read.
func TestParseNewMemory(t *testing.T) {
	s := `{"key":["text",{"other":"more"}]}`
	b := []byte(s)
	v, _, _ := json.Parse(b)
	if string(b) != s {
		t.Error("changed")
	}
	was := exact(v)
	clear(b)
	if exact(v) != was {
		t.Error("kept")
	}
}
