package field

import (
	"bytes"

	"portolan/api"
)

// Size is how many bytes a block has.
const Size = 512

// Block is a header block.
type Block [512]byte

const (
	chksum  = "chksum"
	blanks  = "        " // what chksum is taken as
	sumSize = 7          // of chksum's bytes that the sum has, ahead of a blank
)

// Field: P9.3.
func (b *Block) Field(name string) ([]byte, bool) {
	part, there := b.part(name)
	return bytes.Clone(part), there
}

// Set: P9.3.
func (b *Block) Set(name string, v []byte) api.Errno {
	part, there := b.part(name)
	if !there || len(v) != len(part) {
		return api.ErrArg
	}
	copy(part, v)
	return api.OK
}

// Sum: P9.3.
func (b *Block) Sum() int64 {
	if b == nil {
		return 0
	}
	summed := *b
	summed.Set(chksum, []byte(blanks))
	var sum int64
	for _, x := range summed {
		sum += int64(x)
	}
	return sum
}

// Seal: P9.3.
func (b *Block) Seal() {
	if b == nil {
		return
	}
	// No refusal: the greatest sum, of bytes 255 alone, has six digits.
	sum, _ := Octal(b.Sum(), sumSize)
	b.Set(chksum, append(sum, ' '))
}

// Check: P9.3.
func (b *Block) Check() api.Errno {
	if b == nil {
		return api.ErrArg
	}
	told, _ := b.part(chksum)
	sum, e := Number(told)
	if e != api.OK || !b.hasMagic() {
		return api.ErrForm
	}
	if sum != b.Sum() {
		return api.ErrSum
	}
	return api.OK
}

// Zero: P9.3.
func (b *Block) Zero() bool { return b != nil && *b == Block{} }

func (b *Block) hasMagic() bool {
	magic, _ := b.part("magic")
	return string(magic) == "ustar\x00" || string(magic) == "ustar "
}

// part is a field's very bytes in the block.
func (b *Block) part(name string) ([]byte, bool) {
	place, there := places()[name]
	if b == nil || !there {
		return nil, false
	}
	return b[place[0] : place[0]+place[1]], true
}

// places tells of each field at which byte of a block it begins, and how many it has.
func places() map[string][2]int {
	return map[string][2]int{
		"name":     {0, 100},
		"mode":     {100, 8},
		"uid":      {108, 8},
		"gid":      {116, 8},
		"size":     {124, 12},
		"mtime":    {136, 12},
		chksum:     {148, 8},
		"type":     {156, 1},
		"linkname": {157, 100},
		"magic":    {257, 6},
		"version":  {263, 2},
		"uname":    {265, 32},
		"gname":    {297, 32},
		"devmajor": {329, 8},
		"devminor": {337, 8},
		"prefix":   {345, 155},
	}
}
