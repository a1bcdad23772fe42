package check

import (
	"slices"

	"mizmaze/api"
)

// node is where a word has led through the letters: to each letter that follows leads a node of its own.
type node struct {
	next [api.MaxLetters]*node
	ends bool // whether a word ends here
}

// words keeps words, each once.
type words struct {
	root  node
	count int
}

// add adds the word that consists of the parts, one after the other.
func (w *words) add(parts ...[]int) {
	at := &w.root
	for _, part := range parts {
		for _, x := range part {
			if at.next[x] == nil {
				at.next[x] = &node{}
			}
			at = at.next[x]
		}
	}
	if !at.ends {
		at.ends = true
		w.count++
	}
}

// list returns the words in order.
func (w *words) list() [][]int {
	list := make([][]int, 0, w.count)
	var visit func(at *node, word []int)
	visit = func(at *node, word []int) {
		if at.ends {
			list = append(list, slices.Clone(word))
		}
		for x, next := range at.next {
			if next != nil {
				visit(next, append(word, x))
			}
		}
	}
	visit(&w.root, nil)
	return list
}
