package tar

import (
	"strings"

	"portolan/api"
	"portolan/path"
	"portolan/pax"
)

const (
	modeBits = 0o7777
	attrKey  = "SCHILY.xattr." // a record's key begins with it, if it is an attribute's
	zeroByte = "\x00"
)

// The types of entries.
const (
	typeFile    = '0'
	typeOldFile = 0 // read alone
	typeSymlink = '2'
	typeDir     = '5'
	typeFifo    = '6'
	typeRecords = 'x'
)

// May: P12.1.
func May(m api.Member) bool {
	class, _ := path.Class(m.Path)
	_, isKind := typeOf(m.Node.Kind)
	return class != 0 && isKind && m.Node.Mode <= modeBits &&
		mayAttrs(m.Node.Attrs) && mayData(m.Node) && mayLink(m.Node)
}

func mayNot(m api.Member) bool { return !May(m) }

func mayAttrs(l []api.Attr) bool {
	for k, a := range l {
		// A name may be, if its record's key may.
		if a.Name == "" || pax.Size(record(a)) == 0 || k > 0 && l[k-1].Name >= a.Name {
			return false
		}
	}
	return len(l) <= api.MaxAttrs
}

func mayData(n api.Node) bool {
	return len(n.Data) == 0 || n.Kind == api.File && len(n.Data) <= api.MaxBlob
}

func mayLink(n api.Node) bool {
	if n.Kind != api.Symlink {
		return n.Link == ""
	}
	return n.Link != "" && len(n.Link) <= api.MaxPath && !strings.Contains(n.Link, zeroByte)
}

func record(a api.Attr) pax.Record { return pax.Record{Key: attrKey + a.Name, Value: a.Value} }

// typeOf is the type that is laid for a kind.
func typeOf(kind int) (byte, bool) {
	switch kind {
	case api.Dir:
		return typeDir, true
	case api.File:
		return typeFile, true
	case api.Symlink:
		return typeSymlink, true
	case api.Fifo:
		return typeFifo, true
	}
	return 0, false
}

// kindOf is the kind that a type is read as.
func kindOf(entryType byte) (int, bool) {
	switch entryType {
	case typeDir:
		return api.Dir, true
	case typeFile, typeOldFile:
		return api.File, true
	case typeSymlink:
		return api.Symlink, true
	case typeFifo:
		return api.Fifo, true
	}
	return 0, false
}
