package home

import (
	"slices"

	"mizmaze/api"
	"mizmaze/sets"
)

// A block is the set of the states in which a machine may be after the same outputs. Blocks of one state are left out:
// there is nothing more to learn.

// unknown returns the blocks before the first letter.
func unknown(m api.Mealy) []sets.Set {
	if len(m.Next) == 1 {
		return nil
	}
	return []sets.Set{sets.Below(len(m.Next))}
}

// parted returns the states to which a letter leads from a block, divided by their outputs.
func parted(m api.Mealy, block sets.Set, x int) [api.MaxOuts]sets.Set {
	var parts [api.MaxOuts]sets.Set
	for s := range block.All {
		out := m.Out[s][x]
		parts[out] = parts[out].With(m.Next[s][x])
	}
	return parts
}

// after returns the blocks that are left after a letter, in order, and whether the letter has led two states of a block,
// with the same output, to the same state.
func after(m api.Mealy, blocks []sets.Set, x int) ([]sets.Set, bool) {
	var left []sets.Set
	merged := false
	for _, block := range blocks {
		size := 0
		for _, part := range parted(m, block, x) {
			size += part.Size()
			if part.Size() > 1 {
				left = append(left, part)
			}
		}
		merged = merged || size < block.Size()
	}
	slices.Sort(left)
	return slices.Compact(left), merged
}

// settlers knows the first shortest words that settle which one of two states it was: words that distinguish them or,
// if merging, lead both to the same state.
type settlers struct {
	m       api.Mealy
	merging bool
	lengths [][]int // for each two states; 0 if there is no word
}

func settlersOf(m api.Mealy, merging bool) settlers {
	lengths := make([][]int, len(m.Next))
	for p := range lengths {
		lengths[p] = make([]int, len(m.Next))
	}
	w := settlers{m, merging, lengths}
	for length := 1; w.extend(length); length++ {
	}
	return w
}

// extend notes the pairs that need so many letters, once those that need fewer ones are noted; it reports whether there are any.
func (w settlers) extend(length int) bool {
	more := false
	for p := range w.lengths {
		for q := range p {
			if w.lengths[p][q] == 0 && w.letter(p, q, length) >= 0 {
				w.lengths[p][q], w.lengths[q][p] = length, length
				more = true
			}
		}
	}
	return more
}

// letter returns the first letter of the first word of that length that settles two states, -1 if there is none.
// No shorter word settles them.
func (w settlers) letter(p, q, length int) int {
	for x := range w.m.Next[p] {
		s, t := w.m.Next[p][x], w.m.Next[q][x]
		settled := w.m.Out[p][x] != w.m.Out[q][x] || w.merging && s == t
		if settled || length > 1 && w.lengths[s][t] == length-1 {
			return x
		}
	}
	return -1
}

// word returns the first shortest word that settles two states.
func (w settlers) word(p, q int) []int {
	var word []int
	for length := w.lengths[p][q]; length > 0; length-- {
		x := w.letter(p, q, length)
		word = append(word, x)
		p, q = w.m.Next[p][x], w.m.Next[q][x]
	}
	return word
}

// complete reports whether each two states are settled by some word.
func (w settlers) complete() bool {
	for p := range w.lengths {
		for q := range p {
			if w.lengths[p][q] == 0 {
				return false
			}
		}
	}
	return true
}

// first returns the first one of the shortest words that settle two states of a block.
func (w settlers) first(blocks []sets.Set) []int {
	var best []int
	for _, block := range blocks {
		for p := range block.All {
			for q := range block.All {
				if p <= q || best != nil && w.lengths[p][q] > len(best) {
					continue
				}
				word := w.word(p, q)
				if best == nil || len(word) < len(best) || slices.Compare(word, best) < 0 {
					best = word
				}
			}
		}
	}
	return best
}
