// Package search finds the first shortest words that lead from one place to others.
package search

import "iter"

// step is how a place was reached first: by a letter, from the place of the step with the number from.
type step[P comparable] struct {
	place        P
	from, letter int
}

// Words ranges over the places to which words lead from start, where lead tells to which place a letter leads.
// Each place comes with a function that returns the first shortest word that leads to it. The places come in the
// order of these words: shorter words first, words of the same length in order.
func Words[P comparable](start P, letters int, lead func(P, int) P) iter.Seq2[P, func() []int] {
	return func(yield func(P, func() []int) bool) {
		seen := map[P]bool{start: true}
		steps := []step[P]{{place: start, from: -1}}
		for i := 0; i < len(steps); i++ {
			place := steps[i].place
			if !yield(place, func() []int { return spell(steps, i) }) {
				return
			}
			for x := range letters {
				if next := lead(place, x); !seen[next] {
					seen[next] = true
					steps = append(steps, step[P]{next, i, x})
				}
			}
		}
	}
}

// First returns the first shortest word that leads from start to a place where found is true, and whether there is one.
func First[P comparable](start P, letters int, lead func(P, int) P, found func(P) bool) ([]int, bool) {
	for place, word := range Words(start, letters, lead) {
		if found(place) {
			return word(), true
		}
	}
	return nil, false
}

// spell returns the letters of the steps that lead from the start to step i.
func spell[P comparable](steps []step[P], i int) []int {
	length := 0
	for j := i; steps[j].from >= 0; j = steps[j].from {
		length++
	}
	word := make([]int, length)
	for ; length > 0; i = steps[i].from {
		length--
		word[length] = steps[i].letter
	}
	return word
}
