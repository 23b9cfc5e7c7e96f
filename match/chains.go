package match

import "bytes"

// chains are all places of b, each one linked with the nearest one ahead of it at which the same three bytes stand.
type chains struct {
	b   []byte
	d   int
	far []uint16 // how far ahead of each place the link leads; 0, if there is none within reach
}

// chained links the places of b, to be looked for by chains of d.
func chained(b []byte, d int) *chains {
	c := &chains{b: b, d: d, far: make([]uint16, len(b))}
	nearest := map[[Least]byte]int{} // where each chain stands by now
	for at := range len(b) - Least + 1 {
		here := three(b, at)
		if p, there := nearest[here]; there {
			c.far[at] = uint16(at - p)
		}
		nearest[here] = at
		// What is out of reach from the next place on leaves the map: so no link leads farther, and the map stays small, however many bytes there are.
		if p := at - Farthest; p >= 0 && nearest[three(b, p)] == p {
			delete(nearest, three(b, p))
		}
	}
	return c
}

// look is the best match at a place; Long 0, if none is found.
func (c *chains) look(at int) Step { return best(c.b, at, c.d, c.ahead) }

// ahead is the next place of the chain that p is in, or -1.
func (c *chains) ahead(p int) int {
	if c.far[p] == 0 {
		return -1
	}
	return p - int(c.far[p])
}

// three is what a chain is known by.
func three(b []byte, at int) [Least]byte { return [Least]byte{b[at], b[at+1], b[at+2]} }

// row finds the places of a chain by going back through its bytes: for a single look that is less work than to link them all.
type row []byte

// ahead is the next place of the chain that p is in, or -1.
func (r row) ahead(p int) int { return bytes.LastIndex(r[:p+Least-1], r[p:p+Least]) }

// best is the best match at a place of b, found by chains of d; Long 0, if there is none. From each place of the chain ahead leads to the next one, and from the last one below 0.
func best(b []byte, at, d int, ahead func(p int) int) Step {
	most := min(Most, len(b)-at)
	if most < Least {
		return Step{}
	}
	var found Step
	for p := ahead(at); d > 0 && p >= 0 && at-p <= Farthest && found.Long < most; p = ahead(p) {
		// A longer match has the byte behind what was found: that one alone tells most places off.
		if b[p+found.Long] == b[at+found.Long] {
			if n := alike(b[p:], b[at:at+most]); n > found.Long {
				found = Step{Long: n, Far: at - p}
			}
		}
		d--
	}
	return found
}

// alike is how many bytes a and b begin with that are the same; a is no shorter.
func alike(a, b []byte) int {
	for n := range b {
		if a[n] != b[n] {
			return n
		}
	}
	return len(b)
}
