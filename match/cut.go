package match

import "portolan/api"

// Cut: P5.2.
func Cut(b []byte, d int) ([]Step, api.Errno) {
	if d < 1 || d > Farthest {
		return nil, api.ErrArg
	}
	return steps(b, chained(b, d).look), api.OK
}

// Best: P5.2.
func Best(b []byte, at, d int) (Step, bool) {
	if at < 0 || at >= len(b) {
		return Step{}, false
	}
	reach := b[max(at-Farthest, 0):]
	found := best(reach, min(at, Farthest), d, row(reach).ahead)
	return found, found.Long > 0
}

// steps cuts b; look tells the match found at a place of b, or at its end, by Long 0 if there is none.
func steps(b []byte, look func(at int) Step) []Step {
	var l []Step
	here := look(0)
	for at := 0; at < len(b); {
		next := look(at + 1)
		if here.Long > 0 && next.Long <= here.Long {
			l = append(l, here)
			at += here.Long
			here = look(at)
			continue
		}
		l = append(l, Step{Byte: b[at]})
		at++
		here = next
	}
	return l
}
