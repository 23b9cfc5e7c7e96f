package json

import (
	"unicode/utf8"

	"portolan/api"
)

// checker looks at a value, no deeper than one may be.
type checker struct {
	seen   map[place]struct{}
	deeper bool
}

// place is where a list or a table stands in memory, and within how many others. A list that holds itself twice is met there over and over: 2^32 times in all, were it not passed over.
type place struct {
	list         *Value
	table        *Entry
	many, within int
}

// sound tells whether there is nothing that is no value.
func (c *checker) sound(v Value, within int) bool {
	if within == api.MaxNest {
		c.deeper = true
		return true
	}
	return soundAlone(v) && c.soundList(v.L, within+1) && c.soundTable(v.M, within+1)
}

func (c *checker) soundList(l []Value, within int) bool {
	if len(l) == 0 || c.met(place{list: &l[0], many: len(l), within: within}) {
		return true
	}
	for _, v := range l {
		if !c.sound(v, within) {
			return false
		}
	}
	return true
}

func (c *checker) soundTable(l []Entry, within int) bool {
	if len(l) == 0 || c.met(place{table: &l[0], many: len(l), within: within}) {
		return true
	}
	for _, x := range l {
		if !c.sound(x.V, within) {
			return false
		}
	}
	return true
}

func (c *checker) met(p place) bool {
	_, was := c.seen[p]
	c.seen[p] = struct{}{}
	return was
}

// soundAlone tells whether v is a value, if all that is in it are values.
func soundAlone(v Value) bool {
	return v.Kind >= Null && v.Kind <= Table &&
		(!v.B || v.Kind == Truth) &&
		(v.N == 0 || v.Kind == Whole) &&
		(v.S == "" || v.Kind == Text && utf8.ValidString(v.S)) &&
		(len(v.L) == 0 || v.Kind == List) &&
		(len(v.M) == 0 || v.Kind == Table && soundKeys(v.M))
}

func soundKeys(l []Entry) bool {
	there := map[string]struct{}{}
	for _, x := range l {
		there[x.Key] = struct{}{}
		if !utf8.ValidString(x.Key) {
			return false
		}
	}
	return len(there) == len(l)
}
