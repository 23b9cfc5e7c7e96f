package path

import "strings"

// The classes of a changeset's paths.
const (
	Plain = 1
	Gone  = 2
	Mark  = 3
	Table = 4
)

const (
	reserved  = ".wh." // what no tree's name begins with
	markName  = ".wh..wh..opq"
	tableName = ".wh..wh.toc"
)

// Class: P11.4.
func Class(p string) (class int, target string) {
	last := Base(p)
	may := false
	switch class = lastClass(last); class {
	case Plain:
		target = p
		may = p != "" && May(p)
	case Gone:
		target = strings.TrimSuffix(p, last) + last[len(reserved):]
		may = Whiteout(target) == p
	case Mark:
		target = Parent(p)
		// Not May alone: the parent of a mark behind a slash is the root, too.
		may = Opaque(target) == p
	case Table:
		may = p == tableName
	}
	if !may {
		return 0, ""
	}
	return class, target
}

// Whiteout: P11.4.
func Whiteout(p string) string {
	if p == "" || !May(p) {
		return ""
	}
	return Join(Parent(p), reserved+Base(p))
}

// Opaque: P11.4.
func Opaque(dir string) string {
	if !May(dir) {
		return ""
	}
	return Join(dir, markName)
}

// lastClass is the class of a path that ends in this name, if it has one.
func lastClass(name string) int {
	if class, there := lastNames()[name]; there {
		return class
	}
	if strings.HasPrefix(name, reserved) {
		return Gone
	}
	return Plain
}

// lastNames tells the classes of the last names that have one to themselves.
func lastNames() map[string]int { return map[string]int{markName: Mark, tableName: Table} }
