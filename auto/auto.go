// Package auto is layer 1: automata, words and sets of states.
package auto

import (
	"cmp"
	"strconv"
	"strings"

	"mizmaze/api"
	"mizmaze/sets"
)

// maxText is more than the bytes of the longest string of an automaton: two digits and a separator for each element.
const maxText = api.MaxStates * api.MaxLetters * 3

// Valid reports whether an automaton is valid.
func Valid(a api.Auto) bool {
	if !between(1, api.MaxStates, len(a.Next)) {
		return false
	}
	letters := len(a.Next[0])
	if !between(1, api.MaxLetters, letters) {
		return false
	}
	for _, row := range a.Next {
		if len(row) != letters || !areStates(a, row) {
			return false
		}
	}
	return true
}

// Run returns the state to which a word leads from a state.
func Run(a api.Auto, s int, word []int) (int, api.Errno) {
	if !Valid(a) {
		return 0, api.ErrForm
	}
	if !areStates(a, []int{s}) || !isWord(a, word) {
		return 0, api.ErrArg
	}
	return run(a, s, word), api.OK
}

// Image returns the states to which a word leads from a set.
func Image(a api.Auto, set, word []int) ([]int, api.Errno) {
	return led(a, set, word, func(s sets.Set) sets.Set {
		for _, x := range word {
			s = s.Image(a.Next, x)
		}
		return s
	})
}

// Preimage returns the states from which a word leads into a set.
func Preimage(a api.Auto, set, word []int) ([]int, api.Errno) {
	return led(a, set, word, func(s sets.Set) sets.Set {
		for i := len(word) - 1; i >= 0; i-- {
			s = s.Preimage(a.Next, word[i])
		}
		return s
	})
}

// Renamed returns an automaton whose states have other numbers.
func Renamed(a api.Auto, names []int) (api.Auto, api.Errno) {
	if !Valid(a) {
		return api.Auto{}, api.ErrForm
	}
	n := len(a.Next)
	if len(names) != n || !areStates(a, names) || sets.Of(names) != sets.Below(n) {
		return api.Auto{}, api.ErrArg
	}
	next := make([][]int, n)
	for s, row := range a.Next {
		for _, t := range row {
			next[names[s]] = append(next[names[s]], names[t])
		}
	}
	return api.Auto{Next: next}, api.OK
}

// Power returns an automaton whose letters are words.
func Power(a api.Auto, words [][]int) (api.Auto, api.Errno) {
	if !Valid(a) {
		return api.Auto{}, api.ErrForm
	}
	if !between(1, api.MaxLetters, len(words)) {
		return api.Auto{}, api.ErrArg
	}
	for _, word := range words {
		if !isWord(a, word) {
			return api.Auto{}, api.ErrArg
		}
	}
	next := make([][]int, len(a.Next))
	for s := range next {
		for _, word := range words {
			next[s] = append(next[s], run(a, s, word))
		}
	}
	return api.Auto{Next: next}, api.OK
}

// Text returns the string of an automaton.
func Text(a api.Auto) (string, api.Errno) {
	if !Valid(a) {
		return "", api.ErrForm
	}
	return text(a), api.OK
}

// Parse returns the automaton of a string.
func Parse(s string) (api.Auto, api.Errno) {
	if len(s) > maxText {
		return api.Auto{}, api.ErrParse
	}
	var a api.Auto
	for _, state := range strings.Split(s, " ") {
		var row []int
		for _, number := range strings.Split(state, ".") {
			t, err := strconv.Atoi(number)
			if err != nil {
				return api.Auto{}, api.ErrParse
			}
			row = append(row, t)
		}
		a.Next = append(a.Next, row)
	}
	// A number may have been written in another way (01, +1): only the string of the automaton is accepted.
	if !Valid(a) || text(a) != s {
		return api.Auto{}, api.ErrParse
	}
	return a, api.OK
}

// between reports whether all numbers are from low to high.
func between[N cmp.Ordered](low, high N, numbers ...N) bool {
	for _, n := range numbers {
		if n < low || n > high {
			return false
		}
	}
	return true
}

func areStates(a api.Auto, numbers []int) bool {
	return between(0, len(a.Next)-1, numbers...)
}

func isWord(a api.Auto, word []int) bool {
	return len(word) <= api.MaxWord && between(0, len(a.Next[0])-1, word...)
}

func isSet(a api.Auto, set []int) bool {
	for i := 1; i < len(set); i++ {
		if set[i-1] >= set[i] {
			return false
		}
	}
	return areStates(a, set)
}

// led checks a set and a word, and returns the set to which lead leads.
func led(a api.Auto, set, word []int, lead func(sets.Set) sets.Set) ([]int, api.Errno) {
	if !Valid(a) {
		return nil, api.ErrForm
	}
	if !isSet(a, set) || !isWord(a, word) {
		return nil, api.ErrArg
	}
	return lead(sets.Of(set)).List(), api.OK
}

func run(a api.Auto, s int, word []int) int {
	for _, x := range word {
		s = a.Next[s][x]
	}
	return s
}

func text(a api.Auto) string {
	states := make([]string, len(a.Next))
	for s, row := range a.Next {
		numbers := make([]string, len(row))
		for x, t := range row {
			numbers[x] = strconv.Itoa(t)
		}
		states[s] = strings.Join(numbers, ".")
	}
	return strings.Join(states, " ")
}
