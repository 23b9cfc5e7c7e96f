package huff

import (
	"cmp"
	"slices"

	"portolan/api"
)

const mostCount = 1 << 32

// Lengths: P4.2.
func Lengths(counts []int, limit int) ([]int, api.Errno) {
	if !countable(counts) || limit < 1 || limit > Longest {
		return nil, api.ErrArg
	}
	symbols := byCount(counts)
	if len(symbols) > 1<<limit {
		return nil, api.ErrArg
	}
	lens := make([]int, len(counts))
	if len(symbols) == 1 {
		lens[symbols[0]] = 1
	} else if len(symbols) > 1 {
		lay(lens, symbols, lists(symbols, counts, limit))
	}
	return lens, api.OK
}

// Cost: P4.2.
func Cost(counts, lens []int) int {
	sum := 0
	for symbol := range min(len(counts), len(lens)) {
		sum += counts[symbol] * lens[symbol]
	}
	return sum
}

func countable(counts []int) bool {
	for _, count := range counts {
		if count < 0 || count > mostCount {
			return false
		}
	}
	return len(counts) <= mostSymbols
}

// byCount is the symbols of a count above 0, by rising counts, of one count by rising symbols.
func byCount(counts []int) []int {
	var symbols []int
	for symbol, count := range counts {
		if count > 0 {
			symbols = append(symbols, symbol)
		}
	}
	slices.SortStableFunc(symbols, func(a, b int) int { return cmp.Compare(counts[a], counts[b]) })
	return symbols
}

// entry is an item of a list, or a package.
type entry struct {
	count    int
	packaged bool
}

// lists is the list as it begins, and as it is behind each packing.
func lists(symbols, counts []int, limit int) [][]entry {
	items := make([]entry, len(symbols))
	for k, symbol := range symbols {
		items[k].count = counts[symbol]
	}
	all := [][]entry{items}
	for range limit - 1 {
		all = append(all, merged(items, packages(all[len(all)-1])))
	}
	return all
}

// packages puts two of a list each together; a last one alone is left out.
func packages(list []entry) []entry {
	packs := make([]entry, 0, len(list)/2)
	for ; len(list) > 1; list = list[2:] {
		packs = append(packs, entry{count: list[0].count + list[1].count, packaged: true})
	}
	return packs
}

// merged is both as one list by rising counts, as each of them is; of one count the items are ahead.
func merged(items, packs []entry) []entry {
	list := make([]entry, 0, len(items)+len(packs))
	for _, pack := range packs {
		for len(items) > 0 && items[0].count <= pack.count {
			list = append(list, items[0])
			items = items[1:]
		}
		list = append(list, pack)
	}
	return append(list, items...)
}

// lay adds to each symbol's length how often it is among what is taken. What packages are made of need not be kept: a list's packages stand in the order of the list ahead, so the first of them are made of its first entries, two each.
func lay(lens, symbols []int, lists [][]entry) {
	taken := 2*len(symbols) - 2
	for _, list := range slices.Backward(lists) {
		packs := 0
		for _, one := range list[:taken] {
			if one.packaged {
				packs++
			}
		}
		for _, symbol := range symbols[:taken-packs] {
			lens[symbol]++
		}
		taken = 2 * packs
	}
}
