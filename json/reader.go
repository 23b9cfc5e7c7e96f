package json

import (
	"strconv"

	"portolan/api"
)

// fault is what reading is given up for, and at which byte.
type fault struct {
	at int
	e  api.Errno
}

// reader reads a value's text.
type reader struct {
	b      []byte
	at     int
	within int // how many lists and tables are open
}

// refuse gives reading up at the byte where it stands, if something is wrong.
func (r *reader) refuse(wrong bool, e api.Errno) {
	if wrong {
		panic(fault{r.at, e})
	}
}

// next is the byte where reading stands; behind the end it is 0, with which no text goes on anywhere.
func (r *reader) next() byte {
	if r.at == len(r.b) {
		return 0
	}
	return r.b[r.at]
}

// take takes a byte that must be this one.
func (r *reader) take(c byte) {
	r.refuse(r.next() != c, api.ErrForm)
	r.at++
}

func (r *reader) blanks() {
	for {
		switch r.next() {
		case ' ', '\t', '\n', '\r':
			r.at++
		default:
			return
		}
	}
}

func (r *reader) whole() Value {
	v := r.value()
	r.refuse(r.at < len(r.b), api.ErrForm)
	return v
}

// value reads a value, and the blanks ahead of it and behind it.
func (r *reader) value() Value {
	r.blanks()
	r.refuse(r.within == api.MaxNest, api.ErrDeep)
	read := r.begun(r.next())
	v := read()
	r.blanks()
	return v
}

// begun is who reads what a byte begins.
func (r *reader) begun(first byte) func() Value {
	switch {
	case first == 'n':
		return r.null
	case first == 't':
		return r.yes
	case first == 'f':
		return r.no
	case first == '-' || isDigit(first):
		return r.number
	case first == '"':
		return r.text
	case first == '[':
		return r.list
	case first == '{':
		return r.table
	}
	return r.nothing
}

func (r *reader) nothing() Value {
	r.refuse(true, api.ErrForm)
	return Value{}
}

func (r *reader) null() Value {
	r.word("null")
	return Value{Kind: Null}
}

func (r *reader) yes() Value {
	r.word("true")
	return Value{Kind: Truth, B: true}
}

func (r *reader) no() Value {
	r.word("false")
	return Value{Kind: Truth}
}

func (r *reader) word(word string) {
	for k := range len(word) {
		r.take(word[k])
	}
}

func (r *reader) number() Value {
	from := r.at
	if r.next() == '-' {
		r.at++
	}
	r.refuse(!isDigit(r.next()), api.ErrForm)
	nought := r.next() == '0'
	r.at++
	for !nought && isDigit(r.next()) {
		r.at++
	}
	n, err := strconv.ParseInt(string(r.b[from:r.at]), 10, 64)
	if err != nil {
		panic(fault{from, api.ErrForm})
	}
	return Value{Kind: Whole, N: n}
}

func isDigit(c byte) bool { return c >= '0' && c <= '9' }

func (r *reader) text() Value { return Value{Kind: Text, S: r.characters()} }

func (r *reader) list() Value {
	v := Value{Kind: List}
	for more := r.opened(']'); more; more = r.goesOn(']') {
		v.L = append(v.L, r.value())
	}
	return v
}

func (r *reader) table() Value {
	v := Value{Kind: Table}
	there := map[string]struct{}{}
	for more := r.opened('}'); more; more = r.goesOn('}') {
		v.M = append(v.M, r.entry(there))
	}
	return v
}

// entry reads an entry of a table in which these keys are there ahead.
func (r *reader) entry(there map[string]struct{}) Entry {
	r.blanks()
	from := r.at
	key := r.characters()
	if _, was := there[key]; was {
		panic(fault{from, api.ErrThere})
	}
	there[key] = struct{}{}
	r.blanks()
	r.take(':')
	return Entry{Key: key, V: r.value()}
}

// opened goes into a list or a table that ends with this byte, and tells whether there is something in it.
func (r *reader) opened(end byte) bool {
	r.at++
	r.within++
	r.blanks()
	return r.next() != end || r.closed()
}

// goesOn passes over a comma, or goes out behind the end, and tells whether something follows in it.
func (r *reader) goesOn(end byte) bool {
	if r.next() == end {
		return r.closed()
	}
	r.take(',')
	return true
}

// closed goes out of a list or a table; nothing follows in it.
func (r *reader) closed() bool {
	r.at++
	r.within--
	return false
}
