package json_test

import (
	"bytes"
	"math"
	"math/rand"
	"slices"
	"strings"
	"testing"

	"portolan/api"
	"portolan/json"
)

// nones are no values, each by its own fields.
func nones() []json.Value {
	some := []json.Value{null}
	entries := []json.Entry{entry("a", null)}
	l := []json.Value{
		{}, {Kind: 7}, {Kind: -1}, {Kind: math.MaxInt}, {Kind: math.MinInt}, {B: true}, {Kind: 7, L: some},
		{Kind: json.Text, S: "\xff"}, {Kind: json.Text, S: "a\xe2\x82"}, {Kind: json.Text, S: "\xed\xa0\x80"},
		table(entry("\x80", null)), table(entry("a", null), entry("a", null)), table(entry("a", whole(1)), entry("b", null), entry("a", truth(true))), table(entry("", null), entry("", null)),
	}
	for kind := json.Null; kind <= json.Table; kind++ {
		if kind != json.Truth {
			l = append(l, json.Value{Kind: kind, B: true})
		}
		if kind != json.Whole {
			l = append(l, json.Value{Kind: kind, N: 1}, json.Value{Kind: kind, N: -1})
		}
		if kind != json.Text {
			l = append(l, json.Value{Kind: kind, S: "a"}, json.Value{Kind: kind, S: "\x00"})
		}
		if kind != json.List {
			l = append(l, json.Value{Kind: kind, L: some})
		}
		if kind != json.Table {
			l = append(l, json.Value{Kind: kind, M: entries})
		}
	}
	return l
}

// checks holds Check's and Put's error against what is wanted.
func checks(t *testing.T, v json.Value, want api.Errno) {
	t.Helper()
	if e := json.Check(v); e != want {
		t.Errorf("%.200s: %d, not %d", exact(v), e, want)
	}
	b, e := json.Put(v)
	if e != want || e != api.OK && len(b) > 0 {
		t.Errorf("%.200s: put as %q, %d", exact(v), b, e)
	}
}

// P13.1: values, and what is none.
func TestCheck(t *testing.T) {
	for _, v := range []json.Value{null, truth(false), truth(true), whole(0), whole(math.MinInt64), text(""), text("\x00\ufffd"), list(), table(), list(null, null), table(entry("", null), entry("a", null)),
		{Kind: json.Null, L: []json.Value{}, M: []json.Entry{}}, {Kind: json.List, M: []json.Entry{}}, {Kind: json.Table, L: []json.Value{}}} {
		checks(t, v, api.OK)
		checks(t, list(v, table(entry("a", v), entry("b", v))), api.OK)
	}
	for _, v := range nones() {
		checks(t, v, api.ErrArg)
		checks(t, list(null, v), api.ErrArg)
		checks(t, list(null, table(entry("a", list(v)))), api.ErrArg)
		checks(t, table(entry("a", null), entry("b", v)), api.ErrArg)
	}
}

// P13.1: heights, and that what is deeper than a value may be is not looked at.
func TestHeight(t *testing.T) {
	for _, inTables := range []bool{false, true} {
		checks(t, nested(null, 31, inTables), api.OK)
		checks(t, nested(list(), 31, inTables), api.OK)
		checks(t, nested(table(), 31, inTables), api.OK)
		checks(t, nested(null, 32, inTables), api.ErrDeep)
		checks(t, nested(list(), 32, inTables), api.ErrDeep)
		checks(t, nested(null, 65000, inTables), api.ErrDeep)
		for _, v := range nones() {
			checks(t, nested(v, 31, inTables), api.ErrArg)
			checks(t, nested(v, 32, inTables), api.ErrDeep)
			checks(t, list(nested(null, 40, inTables), v), api.ErrArg)
			checks(t, list(v, nested(null, 40, inTables)), api.ErrArg)
			checks(t, list(nested(null, 40, inTables), nested(v, 30, inTables)), api.ErrArg)
			checks(t, list(nested(null, 40, inTables), nested(v, 31, inTables)), api.ErrDeep)
		}
	}
}

// P13.1: Check ends also where lists hold themselves, or one list is there in many ways.
func TestHeldByItself(t *testing.T) {
	l := make([]json.Value, 3)
	l[0], l[1], l[2] = json.Value{Kind: json.List, L: l}, json.Value{Kind: json.List, L: l}, null
	checks(t, l[0], api.ErrDeep)
	m := []json.Entry{{Key: "a"}, {Key: "b"}}
	m[0].V, m[1].V = table(m...), json.Value{Kind: json.Table, M: m}
	m[0].V = m[1].V
	checks(t, m[0].V, api.ErrDeep)
	l[2] = json.Value{}
	checks(t, l[0], api.ErrArg)
	v := null
	for range 40 {
		v = list(v, v)
	}
	checks(t, v, api.ErrDeep)
	// Pieces of one list are others.
	three := []json.Value{null, null, {}}
	checks(t, list(list(three[:2]...), json.Value{Kind: json.List, L: three[:2]}, json.Value{Kind: json.List, L: three}), api.ErrArg)
	// The same list again, less deep, or deeper.
	tall := nested(null, 29, false)
	checks(t, list(tall, list(tall)), api.OK)
	checks(t, list(list(list(tall)), tall), api.ErrDeep)
	checks(t, list(tall, list(list(tall))), api.ErrDeep)
}

// P13.1: texts.
func TestPut(t *testing.T) {
	for _, c := range []struct {
		v    json.Value
		want string
	}{
		{table(entry("b", list(whole(1), whole(-20))), entry("a", text("xA"))), `{"a":"xA","b":[1,-20]}`},
		{null, "null"}, {truth(true), "true"}, {truth(false), "false"}, {whole(0), "0"}, {whole(-1), "-1"}, {whole(math.MaxInt64), "9223372036854775807"}, {whole(math.MinInt64), "-9223372036854775808"},
		{text(""), `""`}, {text(`a"b\c/d`), `"a\"b\\c/d"`}, {text("\x00\b\t\n\v\f\r\x1b\x1f \x7f"), `"\u0000\u0008\u0009\u000a\u000b\u000c\u000d\u001b\u001f ` + "\x7f\""}, {text("é<>&\u2028\ufffd😀\u0080"), "\"é<>&\u2028\ufffd😀\u0080\""},
		{list(), "[]"}, {table(), "{}"}, {list(list(), table(), null), "[[],{},null]"},
		{table(entry("b", null), entry("", null), entry("ab", null), entry("a", null), entry("B", null), entry("\n", null), entry("é", null), entry("😀", null), entry("\uffff", null)), `{"":null,"\u000a":null,"B":null,"a":null,"ab":null,"b":null,"é":null,"` + "\uffff\":null,\"😀\":null}"},
	} {
		if b, e := json.Put(c.v); e != api.OK || string(b) != c.want {
			t.Errorf("%s: %s, %d", exact(c.v), b, e)
		}
		if plainPut(c.v) != c.want {
			t.Error(plainPut(c.v))
		}
	}
}

// P13.1, P13.4: Put of any value, read again; of any text the value, put, read, put again.
func TestOneText(t *testing.T) {
	random := rand.New(rand.NewSource(4))
	for range 5000 {
		v := anyValue(random, 1+random.Intn(6))
		was := exact(v)
		b, e := json.Put(v)
		if e != api.OK || string(b) != plainPut(v) || exact(v) != was {
			t.Fatalf("%s: %s, %d", was, b, e)
		}
		back, at, e := json.Parse(b)
		if e != api.OK || at != 0 || !json.Same(back, v) || spelled(back) != spelled(v) {
			t.Fatalf("%s: %d at %d", b, e, at)
		}
		other, _, e := json.Parse([]byte(written(random, v)))
		again, e2 := json.Put(other)
		if e != api.OK || e2 != api.OK || !bytes.Equal(again, b) || !json.Same(other, back) {
			t.Fatalf("%s: %s", b, again)
		}
	}
	tall := nested(table(entry("a", null)), 30, false)
	b, _ := json.Put(tall)
	if back, _, e := json.Parse(b); e != api.OK || !json.Same(back, tall) {
		t.Error(e)
	}
}

// P13.3: each field counts, of what is no value, too.
func TestSame(t *testing.T) {
	all := nones()
	for _, v := range nones() {
		all = append(all, list(v), table(entry("a", v)))
	}
	all = append(all, null, truth(false), truth(true), whole(0), whole(1), whole(-1), text(""), text("a"), text("0"), list(), list(null), list(null, null), list(list()), list(whole(1), whole(2)), list(whole(2), whole(1)),
		table(), table(entry("a", null)), table(entry("b", null)), table(entry("a", whole(1))), table(entry("a", null), entry("b", null)), table(entry("a", table())), table(entry("a", list())),
		table(entry("a", null), entry("a", whole(1))), table(entry("a", null), entry("a", null), entry("a", whole(1))), table(entry("a", null), entry("a", whole(1)), entry("a", whole(1))),
		json.Value{Kind: 7, M: []json.Entry{entry("b", null), entry("a", json.Value{})}})
	for k, a := range all {
		for j, b := range all {
			if json.Same(a, b) != (spelled(a) == spelled(b)) || json.Same(list(a), list(b)) != json.Same(a, b) {
				t.Errorf("%d, %d: %s, %s: %v", k, j, exact(a), exact(b), json.Same(a, b))
			}
		}
	}
	if !json.Same(json.Value{Kind: json.List, L: []json.Value{}}, json.Value{Kind: json.List, M: []json.Entry{}}) {
		t.Error("empty lists")
	}
}

// P13.3: whatever the order of entries, but not that of a list.
func TestSameInAnyOrder(t *testing.T) {
	random := rand.New(rand.NewSource(5))
	for range 3000 {
		var l []json.Entry
		for range random.Intn(6) {
			// Some keys are there more than once: that is no value, but has its answer.
			l = append(l, entry(string(rune('a'+random.Intn(3))), anyValue(random, 1+random.Intn(2))))
		}
		l = append(l, l[:random.Intn(len(l)+1)]...)
		other := slices.Clone(l)
		random.Shuffle(len(other), func(k, j int) { other[k], other[j] = other[j], other[k] })
		a, b := list(table(l...)), list(table(other...))
		wasA, wasB := exact(a), exact(b)
		if !json.Same(a, b) || exact(a) != wasA || exact(b) != wasB {
			t.Fatal(wasA, wasB)
		}
		if len(l) > 0 {
			other[random.Intn(len(other))] = entry("b", anyValue(random, 1))
			if json.Same(a, b) != (spelled(a) == spelled(b)) {
				t.Fatal(exact(a), exact(b))
			}
		}
	}
}

// P13.3: what is as high as a program's input may be is gone through, and what holds itself ends.
func TestHighest(t *testing.T) {
	for _, inTables := range []bool{false, true} {
		a, b, c := nested(null, 1<<16, inTables), nested(null, 1<<16, inTables), nested(truth(false), 1<<16, inTables)
		if !json.Same(a, b) || json.Same(a, c) {
			t.Error("high ones")
		}
		if v, there := list(a).Get(); !there || !json.Same(v, list(a)) {
			t.Error("a high one is not told")
		}
		if v := json.Of([]json.Value{a}); !json.Same(v, list(b)) {
			t.Error("a high one is not taken")
		}
	}
	l := make([]json.Value, 2)
	l[0], l[1] = json.Value{Kind: json.List, L: l}, json.Value{Kind: json.List, L: l}
	if json.Same(l[0], l[1]) {
		t.Error("endless ones")
	}
	m := make([]json.Entry, 2)
	m[0], m[1] = entry("a", json.Value{Kind: json.Table, M: m}), entry("b", json.Value{Kind: json.Table, M: m})
	if json.Same(m[0].V, m[1].V) {
		t.Error("endless tables")
	}
	if v, there := m[0].V.Get("b", "a", "b"); there || !json.Same(v, json.Value{}) {
		t.Error("an endless table is told")
	}
	if v, there := l[0].Get(); there || !json.Same(v, json.Value{}) {
		t.Error("an endless one is told")
	}
	if v := json.Of(l); !json.Same(v, json.Value{}) {
		t.Error("an endless one is taken")
	}
}

// P13.3: Get goes key by key, by tables alone, and takes the first entry.
func TestGet(t *testing.T) {
	v := table(entry("a", table(entry("b", list(whole(1))), entry("", text("x")))), entry("n", null), entry("a", whole(2)), entry("\xff", whole(3)))
	noTable := json.Value{Kind: json.List, M: []json.Entry{entry("a", null)}}
	for _, c := range []struct {
		v    json.Value
		keys []string
		want json.Value
	}{
		{v, nil, v}, {v, []string{"n"}, null}, {v, []string{"a", "b"}, list(whole(1))}, {v, []string{"a", ""}, text("x")}, {v, []string{"a"}, v.M[0].V}, {v, []string{"\xff"}, whole(3)},
		{null, nil, null}, {json.Value{}, nil, json.Value{}}, {noTable, nil, noTable},
	} {
		if got, there := c.v.Get(c.keys...); !there || exact(got) != exact(c.want) {
			t.Errorf("%q: %s, %v", c.keys, exact(got), there)
		}
	}
	for _, c := range []struct {
		v    json.Value
		keys []string
	}{
		{v, []string{""}}, {v, []string{"A"}}, {v, []string{"a", "c"}}, {v, []string{"b"}}, {v, []string{"n", "a"}}, {v, []string{"a", "b", ""}}, {v, []string{"a", "b", "c"}}, {v, []string{"c", "a"}},
		{noTable, []string{"a"}}, {list(v), []string{"a"}}, {null, []string{""}}, {text("a"), []string{"a"}}, {json.Value{}, []string{""}}, {table(), []string{""}},
		{json.Value{M: v.M}, []string{"n"}}, {json.Value{Kind: 7, M: v.M}, []string{"n"}},
	} {
		if got, there := c.v.Get(c.keys...); there || exact(got) != exact(json.Value{}) {
			t.Errorf("%s, %q: %s, %v", exact(c.v), c.keys, exact(got), there)
		}
	}
}

// P13.3: Of what Go has.
func TestOf(t *testing.T) {
	values, entries := []json.Value{null, {Kind: 9}}, []json.Entry{entry("b", null), entry("a", list(null)), entry("b", json.Value{})}
	type named string
	type own []json.Value
	var none error
	for _, c := range []struct {
		x    any
		want json.Value
	}{
		{nil, null}, {none, null}, {true, truth(true)}, {false, truth(false)}, {int64(math.MinInt64), whole(math.MinInt64)}, {math.MaxInt, whole(math.MaxInt)}, {0, whole(0)}, {-5, whole(-5)},
		{"", text("")}, {"aé", text("aé")}, {"\xff", text("\xff")},
		{values, list(values...)}, {[]json.Value{}, list()}, {[]json.Value(nil), list()}, {entries, table(entries...)}, {[]json.Entry(nil), table()},
		{null, json.Value{}}, {text("a"), json.Value{}}, {&values, json.Value{}}, {entries[0], json.Value{}}, {int32(1), json.Value{}}, {int8(1), json.Value{}}, {uint(1), json.Value{}}, {uint64(1), json.Value{}}, {1.0, json.Value{}}, {'a', json.Value{}}, {byte(1), json.Value{}},
		{[]byte("a"), json.Value{}}, {[]string{"a"}, json.Value{}}, {[]int{1}, json.Value{}}, {[]any{1}, json.Value{}}, {map[string]json.Value{"a": null}, json.Value{}}, {named("a"), json.Value{}}, {own(values), json.Value{}}, {[1]json.Value{null}, json.Value{}}, {struct{}{}, json.Value{}}, {func() {}, json.Value{}}, {(*int)(nil), json.Value{}}, {api.ErrArg, json.Value{}}, {make(chan int), json.Value{}},
	} {
		if v := json.Of(c.x); exact(v) != exact(c.want) {
			t.Errorf("%T: %s", c.x, exact(v))
		}
	}
}

// spoil changes all of a value that it can reach.
func spoil(v json.Value) {
	for k := range v.L {
		spoil(v.L[k])
		v.L[k] = text("spoilt")
	}
	for k := range v.M {
		spoil(v.M[k].V)
		v.M[k] = entry("spoilt", null)
	}
}

// P13.3: what Get and Of tell is new memory, all of it.
func TestNewMemory(t *testing.T) {
	deep := func() json.Value {
		return table(entry("a", list(list(null), table(entry("b", list(whole(1)))))), entry("c", json.Value{Kind: 9, L: []json.Value{null}, M: []json.Entry{entry("x", list(null))}}))
	}
	want := exact(deep())
	for _, keys := range [][]string{nil, {"a"}, {"c"}} {
		v := deep()
		got, _ := v.Get(keys...)
		spoil(got)
		if exact(v) != want {
			t.Errorf("%q: %s", keys, exact(v))
		}
	}
	v := deep()
	taken, held := json.Of(v.M), json.Of([]json.Value{v})
	spoil(v)
	if exact(taken) != want || exact(held) != exact(list(deep())) {
		t.Error(exact(taken), exact(held))
	}
	// A list that is there twice is there twice in what is told.
	twice := []json.Value{null}
	both := json.Of([]json.Value{{Kind: json.List, L: twice}, {Kind: json.List, L: twice}})
	both.L[0].L[0] = whole(1)
	if exact(both.L[1]) != exact(list(null)) {
		t.Error(exact(both))
	}
}

// P13.1: Put only reads, and what it tells is new.
func TestPutNewMemory(t *testing.T) {
	v := table(entry("b", null), entry("a", text(strings.Repeat("x", 100))))
	first, _ := json.Put(v)
	want := string(first)
	clear(first)
	if second, _ := json.Put(v); string(second) != want || v.M[0].Key != "b" {
		t.Error(string(second))
	}
}
