package json

import "strconv"

const hexDigits = "0123456789abcdef"

// laid is b with a value's text behind it.
func laid(b []byte, v Value) []byte {
	switch v.Kind {
	case Null:
		return append(b, "null"...)
	case Truth:
		return strconv.AppendBool(b, v.B)
	case Whole:
		return strconv.AppendInt(b, v.N, 10)
	case Text:
		return laidText(b, v.S)
	case List:
		return laidList(b, v.L)
	}
	return laidTable(b, v.M)
}

func laidText(b []byte, s string) []byte {
	b = append(b, '"')
	for k := range len(s) {
		switch c := s[k]; {
		case c == '"' || c == '\\':
			b = append(b, '\\', c)
		case c < ' ':
			b = append(b, '\\', 'u', '0', '0', hexDigits[c>>4], hexDigits[c&15])
		default:
			b = append(b, c)
		}
	}
	return append(b, '"')
}

func laidList(b []byte, l []Value) []byte {
	b = append(b, '[')
	for k, v := range l {
		if k > 0 {
			b = append(b, ',')
		}
		b = laid(b, v)
	}
	return append(b, ']')
}

func laidTable(b []byte, l []Entry) []byte {
	b = append(b, '{')
	for k, x := range rising(l) {
		if k > 0 {
			b = append(b, ',')
		}
		b = append(laidText(b, x.Key), ':')
		b = laid(b, x.V)
	}
	return append(b, '}')
}
