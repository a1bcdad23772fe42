// Package sample makes automata, machines and words for the tests; the program itself does not use it.
package sample

import (
	"iter"
	"slices"

	"mizmaze/api"
	"mizmaze/auto"
	"mizmaze/mealy"
)

// Numbers returns a function whose results, less than n, look irregular but are the same in each run.
func Numbers(seed uint64) func(n int) int {
	return func(n int) int {
		seed = seed*6364136223846793005 + 1442695040888963407
		return int(seed>>33) % n
	}
}

// ParseAuto returns the automaton of a string, one that is not valid if the string is none.
func ParseAuto(s string) api.Auto {
	a, _ := auto.Parse(s)
	return a
}

// ParseMealy returns the machine of a string, one that is not valid if the string is none.
func ParseMealy(s string) api.Mealy {
	m, _ := mealy.Parse(s)
	return m
}

// Auto returns some automaton.
func Auto(next func(int) int, states, letters int) api.Auto {
	return api.Auto{Next: table(next, states, letters, states)}
}

// Eulerian returns some Eulerian automaton: its elements are a mixture in which each state occurs equally often.
func Eulerian(next func(int) int, states, letters int) api.Auto {
	var mixture []int
	for i := range states * letters {
		mixture = slices.Insert(mixture, next(i+1), i%states)
	}
	var a api.Auto
	for s := range states {
		a.Next = append(a.Next, slices.Clone(mixture[s*letters:(s+1)*letters]))
	}
	return a
}

// Word returns some word.
func Word(next func(int) int, letters, length int) []int {
	return table(next, 1, length, letters)[0]
}

// Order returns the numbers less than n in some order.
func Order(next func(int) int, n int) []int {
	var order []int
	for i := range n {
		order = slices.Insert(order, next(i+1), i)
	}
	return order
}

// AllAutos ranges over every automaton of that many states and letters.
func AllAutos(states, letters int) iter.Seq[api.Auto] {
	return func(yield func(api.Auto) bool) {
		count := 1
		for range states * letters {
			count *= states
		}
		for code := range count {
			a := api.Auto{Next: make([][]int, states)}
			for s := range a.Next {
				for range letters {
					a.Next[s] = append(a.Next[s], code%states)
					code /= states
				}
			}
			if !yield(a) {
				return
			}
		}
	}
}

// SmallAutos ranges over all the smallest automata, and some others.
func SmallAutos() iter.Seq[api.Auto] {
	return func(yield func(api.Auto) bool) {
		for _, size := range [][2]int{{1, 2}, {2, 2}, {3, 2}, {4, 1}} {
			for a := range AllAutos(size[0], size[1]) {
				if !yield(a) {
					return
				}
			}
		}
		next := Numbers(1)
		for range 300 {
			if !yield(Auto(next, 1+next(7), 1+next(3))) || !yield(Eulerian(next, 1+next(7), 1+next(3))) {
				return
			}
		}
	}
}

// InvalidAutos returns automata that are not valid.
func InvalidAutos() []api.Auto {
	next := Numbers(2)
	return []api.Auto{
		{},
		{Next: [][]int{{}}},
		{Next: [][]int{nil, nil}},
		{Next: [][]int{{1}}},
		{Next: [][]int{{-1}}},
		{Next: [][]int{{0, 0}, {0}}},
		{Next: [][]int{{0}, {0, 0}}},
		{Next: [][]int{{0, 1}, {0, 2}}},
		Auto(next, 61, 1),
		Auto(next, 3, 7),
	}
}

// Mealy returns some machine with so many outputs.
func Mealy(next func(int) int, states, letters, outs int) api.Mealy {
	return api.Mealy{Next: table(next, states, letters, states), Out: table(next, states, letters, outs)}
}

// Unfolded returns a machine each of whose states is equivalent to one of m: state s to state s modulo the states of m.
func Unfolded(next func(int) int, m api.Mealy, states int) api.Mealy {
	var big api.Mealy
	n := len(m.Next)
	for s := range states {
		var row []int
		for _, t := range m.Next[s%n] {
			row = append(row, t+n*next((states-t+n-1)/n))
		}
		big.Next = append(big.Next, row)
		big.Out = append(big.Out, slices.Clone(m.Out[s%n]))
	}
	return big
}

// AllMachines ranges over every machine of that many states and letters with two outputs.
func AllMachines(states, letters int) iter.Seq[api.Mealy] {
	return func(yield func(api.Mealy) bool) {
		for a := range AllAutos(states, letters) {
			for code := range 1 << (states * letters) {
				bit := func(int) int {
					b := code % 2
					code /= 2
					return b
				}
				if !yield(api.Mealy{Next: a.Next, Out: table(bit, states, letters, 2)}) {
					return
				}
			}
		}
	}
}

// SmallMachines ranges over all the smallest machines, and some others.
func SmallMachines() iter.Seq[api.Mealy] {
	return func(yield func(api.Mealy) bool) {
		for _, size := range [][2]int{{1, 2}, {2, 1}, {2, 2}, {3, 1}} {
			for m := range AllMachines(size[0], size[1]) {
				if !yield(m) {
					return
				}
			}
		}
		next := Numbers(5)
		for range 150 {
			m := Mealy(next, 1+next(7), 1+next(3), 1+next(3))
			if !yield(m) || !yield(Mealy(next, 2+next(6), 1+next(2), 2)) || !yield(Unfolded(next, m, len(m.Next)+next(4))) {
				return
			}
		}
	}
}

// LargeMachines returns machines of MaxStates states: irregular ones, one whose states are all equivalent, and one whose
// states are told apart by long words only.
func LargeMachines() []api.Mealy {
	next := Numbers(6)
	counter := api.Mealy{}
	for s := range api.MaxStates {
		counter.Next = append(counter.Next, []int{max(s-1, 0), s})
		counter.Out = append(counter.Out, []int{0, 0})
	}
	counter.Out[0][0] = 1
	return []api.Mealy{
		Mealy(next, api.MaxStates, api.MaxLetters, api.MaxOuts),
		Mealy(next, api.MaxStates, 2, 2),
		Mealy(next, api.MaxStates, api.MaxLetters, 1),
		Unfolded(next, Mealy(next, 20, 3, 2), api.MaxStates),
		counter,
	}
}

// InvalidMachines returns machines that are not valid.
func InvalidMachines() []api.Mealy {
	next := Numbers(7)
	machines := []api.Mealy{
		{},
		{Next: [][]int{{0}}},
		{Out: [][]int{{0}}},
		{Next: [][]int{{0}}, Out: [][]int{{}}},
		{Next: [][]int{{0}}, Out: [][]int{{0, 0}}},
		{Next: [][]int{{0}}, Out: [][]int{{0}, {0}}},
		{Next: [][]int{{0}, {1}}, Out: [][]int{{0}}},
		{Next: [][]int{{0, 0}, {0, 1}}, Out: [][]int{{0, 0}, {0}}},
		{Next: [][]int{{0}}, Out: [][]int{{-1}}},
		{Next: [][]int{{0}}, Out: [][]int{{api.MaxOuts}}},
	}
	for _, a := range InvalidAutos() {
		letters := 0
		if len(a.Next) > 0 {
			letters = len(a.Next[0])
		}
		machines = append(machines, api.Mealy{Next: a.Next, Out: table(next, len(a.Next), letters, 2)})
	}
	return machines
}

func table(next func(int) int, rows, columns, limit int) [][]int {
	t := make([][]int, rows)
	for i := range t {
		for range columns {
			t[i] = append(t[i], next(limit))
		}
	}
	return t
}
