package sha

import (
	"strings"

	"portolan/api"
)

const (
	prefix = "sha256:"
	digits = "0123456789abcdef"
)

// Name: P1.3.
func Name(d api.Digest) string {
	text := make([]byte, 0, len(prefix)+2*len(d))
	text = append(text, prefix...)
	for _, b := range d {
		text = append(text, digits[b>>4], digits[b&15])
	}
	return string(text)
}

// Parse: P1.3.
func Parse(s string) (api.Digest, api.Errno) {
	var d api.Digest
	hex, found := strings.CutPrefix(s, prefix)
	if !found || len(hex) != 2*len(d) {
		return api.Digest{}, api.ErrForm
	}
	for i := range d {
		high := strings.IndexByte(digits, hex[2*i])
		low := strings.IndexByte(digits, hex[2*i+1])
		if high < 0 || low < 0 {
			return api.Digest{}, api.ErrForm
		}
		d[i] = byte(high<<4 | low)
	}
	return d, api.OK
}
