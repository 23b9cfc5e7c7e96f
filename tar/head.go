package tar

import (
	"slices"
	"strings"

	"portolan/api"
	"portolan/field"
	"portolan/pax"
)

// How many bytes the fields of a header have.
const (
	typeSize    = 1
	versionSize = 2
	magicSize   = 6
	numberSize  = 8 // of mode, uid and gid
	longSize    = 12
	textSize    = 100 // of name and linkname
	prefixSize  = 155
)

const (
	slash = '/'
	noFit = "pax" // the name of an entry of records, and of one whose own name does not fit
)

// header is a header, with the records of what does not stand in it.
type header struct {
	block   field.Block
	records []pax.Record
}

// head is all of a Member's but its Data and what follows them; it may be in a tar.
func head(m api.Member) []byte {
	h := headerOf(m)
	own := h.sealed()
	if len(h.records) == 0 {
		return own
	}
	texts, e := pax.Put(h.records...)
	must(e)
	return slices.Concat(recordsHeader(len(texts)).sealed(), texts, make([]byte, Pad(len(texts))), own)
}

func headerOf(m api.Member) *header {
	n := m.Node
	entryType, _ := typeOf(n.Kind)
	h := begun(entryType)
	h.name(longName(m))
	if !h.text("linkname", textSize, n.Link) {
		h.record("linkpath", n.Link)
	}
	h.numbers(n, len(n.Data))
	for _, a := range n.Attrs {
		h.records = append(h.records, record(a))
	}
	return h
}

// recordsHeader is the header of records whose texts have so many bytes.
func recordsHeader(size int) *header {
	h := begun(typeRecords)
	h.text("name", textSize, noFit)
	h.numbers(api.Node{}, size)
	return h
}

func begun(entryType byte) *header {
	h := &header{}
	h.text("magic", magicSize, "ustar")
	h.text("version", versionSize, "00")
	h.text("type", typeSize, string([]byte{entryType}))
	return h
}

func longName(m api.Member) string {
	if m.Node.Kind == api.Dir {
		return m.Path + string(slash)
	}
	return m.Path
}

// name lays a long name; where it does not fit, it is kept as a record.
func (h *header) name(long string) {
	if h.text("name", textSize, long) || h.parted(long) {
		return
	}
	h.text("name", textSize, noFit)
	h.record("path", long)
}

// parted lays a long name, of more than a name's bytes, as prefix and name, if it fits so.
func (h *header) parted(long string) bool {
	// The last slash that the prefix has room ahead of leaves the fewest bytes for the name; a Dir's last one leaves none.
	at := strings.LastIndexByte(long[:min(prefixSize+1, len(long)-1)], slash)
	return at >= 0 && h.text("name", textSize, long[at+1:]) && h.text("prefix", prefixSize, long[:at])
}

// numbers lays all numbers but the sum.
func (h *header) numbers(n api.Node, size int) {
	h.number("mode", numberSize, int64(n.Mode))
	h.number("uid", numberSize, int64(n.Uid))
	h.number("gid", numberSize, int64(n.Gid))
	h.number("size", longSize, int64(size))
	h.number("mtime", longSize, n.Time)
}

// number lays a number; where it does not fit, it is kept as a record of the field's name, and 0 laid.
func (h *header) number(name string, many int, n int64) {
	v, e := field.Octal(n, many)
	if e == api.ErrLong {
		h.record(name, pax.Text(n))
		v, e = field.Octal(0, many)
	}
	must(e)
	must(h.block.Set(name, v))
}

// text lays a text, if it fits.
func (h *header) text(name string, many int, s string) bool {
	v, e := field.Text(s, many)
	if e == api.ErrLong {
		return false
	}
	must(e)
	must(h.block.Set(name, v))
	return true
}

func (h *header) record(key, value string) {
	h.records = append(h.records, pax.Record{Key: key, Value: value})
}

func (h *header) sealed() []byte {
	h.block.Seal()
	return h.block[:]
}
