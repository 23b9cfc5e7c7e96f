package json_test

import (
	std "encoding/json"
	"fmt"
	"math/big"
	"math/rand"
	"regexp"
	"slices"
	"strings"
	"testing"
	"unicode/utf8"

	"portolan/api"
	"portolan/json"
)

// The chapter read in the plainest way: a text is gone through from its first byte on, with a row of what is open; what the text is the library tells.

var (
	plainEscape = regexp.MustCompile(`^(?:\\["\\/bfnrt]|\\u(?:[0-9a-cA-Ce-fE-F][0-9a-fA-F]{3}|[dD][0-7][0-9a-fA-F]{2}|[dD][89abAB][0-9a-fA-F]{2}\\u[dD][c-fC-F][0-9a-fA-F]{2}))`)
	plainNumber = regexp.MustCompile(`^-?(?:0|[1-9][0-9]*)`)
)

// plainFault is the first fault of a text.
func plainFault(s string) (int, api.Errno) {
	open := ""             // the brackets
	want := "value"        // or: value or ], key or }, key, colon, more
	keys := [][]string{{}} // of what is open
	at := 0
	for {
		at += len(s[at:]) - len(strings.TrimLeft(s[at:], " \t\n\r"))
		rest := s[at:]
		ends := (strings.HasPrefix(rest, "]") && want != "value" && strings.HasSuffix(open, "[")) || (strings.HasPrefix(rest, "}") && want != "key" && strings.HasSuffix(open, "{"))
		switch {
		case ends && want != "colon" && want != "value":
			open, keys, want, at = open[:len(open)-1], keys[:len(keys)-1], "more", at+1
		case strings.HasPrefix(want, "value") && len(open) == 32:
			return at, api.ErrDeep
		case rest == "" && want == "more" && open == "":
			return 0, api.OK
		case rest == "":
			return at, api.ErrForm
		case want == "more" && rest[0] == ',' && open != "":
			at++
			want = map[byte]string{'[': "value", '{': "key"}[open[len(open)-1]]
		case want == "colon" && rest[0] == ':':
			want, at = "value", at+1
		case strings.HasPrefix(want, "key") && rest[0] == '"':
			many, wrong := plainText(rest)
			if wrong {
				return at + many, api.ErrForm
			}
			var key string
			if std.Unmarshal([]byte(rest[:many]), &key) != nil {
				panic(rest[:many])
			}
			if slices.Contains(keys[len(keys)-1], key) {
				return at, api.ErrThere
			}
			keys[len(keys)-1] = append(keys[len(keys)-1], key)
			want, at = "colon", at+many
		case strings.HasPrefix(want, "value") && strings.Contains("[{", rest[:1]):
			open += rest[:1]
			keys = append(keys, nil)
			want = map[byte]string{'[': "value or ]", '{': "key or }"}[rest[0]]
			at++
		case strings.HasPrefix(want, "value"):
			many, wrong := plainLeaf(rest)
			at += many
			if wrong {
				return at, api.ErrForm
			}
			want = "more"
		default:
			return at, api.ErrForm
		}
	}
}

// plainLeaf tells how many bytes the value has that s begins with, or at which byte it goes wrong.
func plainLeaf(s string) (int, bool) {
	if s[0] == '"' {
		return plainText(s)
	}
	for _, word := range []string{"null", "true", "false"} {
		if word[0] == s[0] {
			many := 0
			for many < len(word) && many < len(s) && s[many] == word[many] {
				many++
			}
			return many, many < len(word)
		}
	}
	digits := plainNumber.FindString(s)
	if digits == "" {
		return len(s) - len(strings.TrimPrefix(s, "-")), true
	}
	n, _ := new(big.Int).SetString(digits, 10)
	if !n.IsInt64() {
		return 0, true
	}
	return len(digits), false
}

func plainText(s string) (int, bool) {
	for at := 1; ; {
		if at == len(s) {
			return at, true
		}
		switch c := s[at]; {
		case c == '"':
			return at + 1, false
		case c == '\\':
			many := len(plainEscape.FindString(s[at:]))
			if many == 0 {
				return at, true
			}
			at += many
		case c < 32:
			return at, true
		default:
			many := 1
			for many < 4 && at+many < len(s) && !utf8.ValidString(s[at:at+many]) {
				many++
			}
			if !utf8.ValidString(s[at : at+many]) {
				return at, true
			}
			at += many
		}
	}
}

// plainValue is the value of a good text, by the library's tokens.
func plainValue(s string) json.Value {
	d := std.NewDecoder(strings.NewReader(s))
	d.UseNumber()
	return tokened(d)
}

func tokened(d *std.Decoder) json.Value {
	token, err := d.Token()
	if err != nil {
		panic(err)
	}
	switch x := token.(type) {
	case bool:
		return json.Value{Kind: json.Truth, B: x}
	case std.Number:
		n, err := x.Int64()
		if err != nil {
			panic(err)
		}
		return json.Value{Kind: json.Whole, N: n}
	case string:
		return json.Value{Kind: json.Text, S: x}
	case std.Delim:
		v := json.Value{Kind: json.List}
		if x == '{' {
			v.Kind = json.Table
		}
		for d.More() {
			if x == '{' {
				key, _ := d.Token()
				v.M = append(v.M, json.Entry{Key: key.(string), V: tokened(d)})
			} else {
				v.L = append(v.L, tokened(d))
			}
		}
		if _, err := d.Token(); err != nil {
			panic(err)
		}
		return v
	}
	return json.Value{Kind: json.Null}
}

// plainPut is a value's text.
func plainPut(v json.Value) string {
	switch v.Kind {
	case json.Null:
		return "null"
	case json.Truth:
		return fmt.Sprint(v.B)
	case json.Whole:
		return fmt.Sprint(v.N)
	case json.Text:
		s := strings.NewReplacer(`\`, `\\`, `"`, `\"`).Replace(v.S)
		for c := range 32 {
			s = strings.ReplaceAll(s, string(rune(c)), fmt.Sprintf(`\u%04x`, c))
		}
		return `"` + s + `"`
	}
	var parts []string
	for _, x := range v.L {
		parts = append(parts, plainPut(x))
	}
	if v.Kind == json.List {
		return "[" + strings.Join(parts, ",") + "]"
	}
	l := slices.Clone(v.M)
	slices.SortFunc(l, func(x, y json.Entry) int { return strings.Compare(x.Key, y.Key) })
	for _, x := range l {
		parts = append(parts, plainPut(text(x.Key))+":"+plainPut(x.V))
	}
	return "{" + strings.Join(parts, ",") + "}"
}

// spelled is all fields of a value, in one way whatever the order of entries: so it is the same for the same values.
func spelled(v json.Value) string {
	var l, m []string
	for _, x := range v.L {
		l = append(l, spelled(x))
	}
	for _, x := range v.M {
		m = append(m, fmt.Sprintf("%q:%s", x.Key, spelled(x.V)))
	}
	slices.Sort(m)
	return fmt.Sprintf("<%d %v %d %q %v %v>", v.Kind, v.B, v.N, v.S, l, m)
}

// exact is as spelled, but entries are in their order.
func exact(v json.Value) string {
	var l, m []string
	for _, x := range v.L {
		l = append(l, exact(x))
	}
	for _, x := range v.M {
		m = append(m, fmt.Sprintf("%q:%s", x.Key, exact(x.V)))
	}
	return fmt.Sprintf("<%d %v %d %q %v %v>", v.Kind, v.B, v.N, v.S, l, m)
}

func text(s string) json.Value                { return json.Value{Kind: json.Text, S: s} }
func whole(n int64) json.Value                { return json.Value{Kind: json.Whole, N: n} }
func truth(b bool) json.Value                 { return json.Value{Kind: json.Truth, B: b} }
func list(l ...json.Value) json.Value         { return json.Value{Kind: json.List, L: l} }
func entry(k string, v json.Value) json.Entry { return json.Entry{Key: k, V: v} }
func table(m ...json.Entry) json.Value        { return json.Value{Kind: json.Table, M: m} }

var null = json.Value{Kind: json.Null}

// nested is v in so many lists, or tables, one in the other.
func nested(v json.Value, many int, inTables bool) json.Value {
	for range many {
		if inTables {
			v = table(entry("k", v))
		} else {
			v = list(v)
		}
	}
	return v
}

var characters = []string{"a", "b", "", "\"", "\\", "/", "\x00", "\x1f", "\n", "\x7f", "é", "\u2028", "\ufffd", "😀", "<", "\U0010ffff", "\u0080"}

func anyText(random *rand.Rand) string {
	s := ""
	for range random.Intn(4) {
		s += characters[random.Intn(len(characters))]
	}
	return s
}

// anyValue is a value of at most this height.
func anyValue(random *rand.Rand, height int) json.Value {
	kinds := 6
	if height == 1 {
		kinds = 4
	}
	switch v := (json.Value{Kind: 1 + random.Intn(kinds)}); v.Kind {
	case json.Truth:
		return truth(random.Intn(2) == 0)
	case json.Whole:
		return whole(int64(random.Uint64()) >> random.Intn(64))
	case json.Text:
		return text(anyText(random))
	case json.List:
		for range random.Intn(4) {
			v.L = append(v.L, anyValue(random, height-1))
		}
		return v
	case json.Table:
		for range random.Intn(4) {
			key := anyText(random)
			if !slices.ContainsFunc(v.M, func(x json.Entry) bool { return x.Key == key }) {
				v.M = append(v.M, entry(key, anyValue(random, height-1)))
			}
		}
		return v
	default:
		return v
	}
}

// written is some text of a value, as others may write it.
func written(random *rand.Rand, v json.Value) string {
	blank := func() string {
		return []string{"", "", "", " ", "\t", "\n", "\r", " \n  "}[random.Intn(8)]
	}
	s := ""
	switch v.Kind {
	case json.Text:
		s = writtenText(random, v.S)
	case json.List:
		for k, x := range v.L {
			if k > 0 {
				s += ","
			}
			s += written(random, x)
		}
		s = "[" + blank() + s + "]"
	case json.Table:
		for k, x := range v.M {
			if k > 0 {
				s += ","
			}
			s += blank() + writtenText(random, x.Key) + blank() + ":" + written(random, x.V)
		}
		s = "{" + blank() + s + "}"
	default:
		s = plainPut(v)
	}
	return blank() + s + blank()
}

func writtenText(random *rand.Rand, s string) string {
	short := map[rune]string{'"': `\"`, '\\': `\\`, '/': `\/`, 8: `\b`, 12: `\f`, '\n': `\n`, '\r': `\r`, '\t': `\t`}
	b := ""
	for _, c := range s {
		way := random.Intn(3)
		digits := []string{"%04x", "%04X"}[random.Intn(2)]
		switch {
		case way == 0 && c > 0xffff:
			b += fmt.Sprintf(`\u`+digits+`\u`+digits, 0xd800+(c-0x10000)>>10, 0xdc00+(c-0x10000)&0x3ff)
		case way == 0 || c < 32 && short[c] == "":
			b += fmt.Sprintf(`\u`+digits, c)
		case short[c] != "" && (way == 1 || c != '/'):
			b += short[c]
		default:
			b += string(c)
		}
	}
	return `"` + b + `"`
}

// parses holds what Parse tells of a text against the plain reading.
func parses(t *testing.T, s string) {
	t.Helper()
	v, at, e := json.Parse([]byte(s))
	wantAt, want := plainFault(s)
	if e != want || at != wantAt {
		t.Fatalf("%q: %d at %d, not %d at %d", s, e, at, want, wantAt)
	}
	if e != api.OK {
		if exact(v) != exact(json.Value{}) {
			t.Fatalf("%q: a value beside an error", s)
		}
		return
	}
	if told := plainValue(s); exact(v) != exact(told) {
		t.Fatalf("%q: %s, not %s", s, exact(v), exact(told))
	}
}
