// Package sample makes automata and words for the tests; the program itself does not use it.
package sample

import (
	"iter"
	"slices"

	"mizmaze/api"
)

// Numbers returns a function whose results, less than n, look irregular but are the same in each run.
func Numbers(seed uint64) func(n int) int {
	return func(n int) int {
		seed = seed*6364136223846793005 + 1442695040888963407
		return int(seed>>33) % n
	}
}

// Auto returns some automaton.
func Auto(next func(int) int, states, letters int) api.Auto {
	return api.Auto{Next: table(next, states, letters, states)}
}

// Eulerian returns some Eulerian automaton: its elements are a mixture in which each state occurs equally often.
func Eulerian(next func(int) int, states, letters int) api.Auto {
	var mixture []int
	for i := range states * letters {
		mixture = slices.Insert(mixture, next(i+1), i%states)
	}
	var a api.Auto
	for s := range states {
		a.Next = append(a.Next, slices.Clone(mixture[s*letters:(s+1)*letters]))
	}
	return a
}

// Word returns some word.
func Word(next func(int) int, letters, length int) []int {
	return table(next, 1, length, letters)[0]
}

// Order returns the numbers less than n in some order.
func Order(next func(int) int, n int) []int {
	var order []int
	for i := range n {
		order = slices.Insert(order, next(i+1), i)
	}
	return order
}

// AllAutos ranges over every automaton of that many states and letters.
func AllAutos(states, letters int) iter.Seq[api.Auto] {
	return func(yield func(api.Auto) bool) {
		count := 1
		for range states * letters {
			count *= states
		}
		for code := range count {
			a := api.Auto{Next: make([][]int, states)}
			for s := range a.Next {
				for range letters {
					a.Next[s] = append(a.Next[s], code%states)
					code /= states
				}
			}
			if !yield(a) {
				return
			}
		}
	}
}

// SmallAutos ranges over all the smallest automata, and some others.
func SmallAutos() iter.Seq[api.Auto] {
	return func(yield func(api.Auto) bool) {
		for _, size := range [][2]int{{1, 2}, {2, 2}, {3, 2}, {4, 1}} {
			for a := range AllAutos(size[0], size[1]) {
				if !yield(a) {
					return
				}
			}
		}
		next := Numbers(1)
		for range 300 {
			if !yield(Auto(next, 1+next(7), 1+next(3))) || !yield(Eulerian(next, 1+next(7), 1+next(3))) {
				return
			}
		}
	}
}

// InvalidAutos returns automata that are not valid.
func InvalidAutos() []api.Auto {
	next := Numbers(2)
	return []api.Auto{
		{},
		{Next: [][]int{{}}},
		{Next: [][]int{nil, nil}},
		{Next: [][]int{{1}}},
		{Next: [][]int{{-1}}},
		{Next: [][]int{{0, 0}, {0}}},
		{Next: [][]int{{0}, {0, 0}}},
		{Next: [][]int{{0, 1}, {0, 2}}},
		Auto(next, 61, 1),
		Auto(next, 3, 7),
	}
}

func table(next func(int) int, rows, columns, limit int) [][]int {
	t := make([][]int, rows)
	for i := range t {
		for range columns {
			t[i] = append(t[i], next(limit))
		}
	}
	return t
}
