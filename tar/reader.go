package tar

import (
	"bytes"
	"math"
	"slices"
	"strings"

	"portolan/api"
	"portolan/field"
	"portolan/path"
	"portolan/pax"
)

// reader reads a tar, block by block.
type reader struct {
	rest    []byte
	waits   bool // whether an x waits for its entry
	records []pax.Record
	members []api.Member
}

// all reads up to the end.
func (r *reader) all() []api.Member {
	for {
		block := r.block()
		if block.Zero() {
			second := r.block()
			refuse(!second.Zero() || r.waits, api.ErrForm)
			return r.members
		}
		must(block.Check())
		r.entry(&block)
	}
}

func (r *reader) block() field.Block { return field.Block(r.take(Block)) }

// take takes so many bytes, and passes over what there is up to the next block.
func (r *reader) take(many int) []byte {
	whole := many + Pad(many)
	refuse(whole > len(r.rest), api.ErrShort)
	taken := r.rest[:many]
	r.rest = r.rest[whole:]
	return taken
}

// entry reads an entry behind its header.
func (r *reader) entry(block *field.Block) {
	entryType, _ := block.Field("type")
	if entryType[0] == typeRecords {
		r.extend(block)
		return
	}
	kind, isKind := kindOf(entryType[0])
	refuse(!isKind, api.ErrKind)
	m := r.member(&header{block: *block, records: r.records}, kind)
	r.waits, r.records = false, nil
	if m.Path == "" {
		return
	}
	refuse(len(r.members) == api.MaxFiles, api.ErrLimit)
	r.members = append(r.members, m)
}

// extend reads an x, which waits for the next entry.
func (r *reader) extend(block *field.Block) {
	x := header{block: *block}
	size := x.size()
	refuse(r.waits, api.ErrForm)
	records, e := pax.Get(r.take(size))
	refuse(e != api.OK, api.ErrForm)
	r.waits, r.records = true, records
}

// member reads a Member behind its header; the root, which is none, is told as one without a path.
func (r *reader) member(h *header, kind int) api.Member {
	n := api.Node{Kind: kind}
	n.Mode = uint32(within(h.fieldNumber("mode"), math.MaxInt64) & modeBits)
	n.Uid = uint32(within(h.toldNumber("uid"), math.MaxUint32))
	n.Gid = uint32(within(h.toldNumber("gid"), math.MaxUint32))
	size := h.size()
	n.Time = h.toldNumber("mtime")
	data := r.take(size)
	if kind == api.File {
		n.Data = bytes.Clone(data)
	}
	p := h.path()
	if p == "" && kind == api.Dir {
		return api.Member{}
	}
	refuse(p == "", api.ErrPath)
	class, _ := path.Class(p)
	refuse(class == 0, api.ErrReserved)
	if kind == api.Symlink {
		n.Link = h.link()
	}
	n.Attrs = h.attrs()
	return api.Member{Path: p, Node: n}
}

// path is the raw path, made clean.
func (h *header) path() string {
	raw, told := pax.Last(h.records, "path")
	if !told {
		raw = h.fieldText("name")
		if ahead := h.fieldText("prefix"); ahead != "" {
			raw = ahead + string(slash) + raw
		}
	}
	p, e := path.Clean(raw)
	must(e)
	return p
}

func (h *header) link() string {
	link, told := pax.Last(h.records, "linkpath")
	if !told {
		link = h.fieldText("linkname")
	}
	refuse(link == "" || strings.Contains(link, zeroByte), api.ErrForm)
	refuse(len(link) > api.MaxPath, api.ErrLong)
	return link
}

// attrs are the attributes, of one name the last one.
func (h *header) attrs() []api.Attr {
	var l []api.Attr
	byName := func(a api.Attr, name string) int { return strings.Compare(a.Name, name) }
	for _, r := range slices.Backward(h.records) {
		name, is := strings.CutPrefix(r.Key, attrKey)
		if !is || name == "" {
			continue
		}
		at, there := slices.BinarySearchFunc(l, name, byName)
		if !there {
			refuse(len(l) == api.MaxAttrs, api.ErrLimit)
			l = slices.Insert(l, at, api.Attr{Name: name, Value: r.Value})
		}
	}
	return l
}

func (h *header) size() int {
	n := within(h.toldNumber("size"), math.MaxInt64)
	refuse(n > api.MaxBlob, api.ErrLong)
	return int(n)
}

// toldNumber is a number that the records tell, or else the field.
func (h *header) toldNumber(name string) int64 {
	text, told := pax.Last(h.records, name)
	if !told {
		return h.fieldNumber(name)
	}
	n, is := pax.Number(text)
	refuse(!is, api.ErrForm)
	return n
}

func (h *header) fieldNumber(name string) int64 {
	v, _ := h.block.Field(name)
	n, e := field.Number(v)
	must(e)
	return n
}

func (h *header) fieldText(name string) string {
	v, _ := h.block.Field(name)
	return field.String(v)
}

// within is a number that must be neither below 0 nor above the most.
func within(n, most int64) int64 {
	refuse(n < 0 || n > most, api.ErrForm)
	return n
}
