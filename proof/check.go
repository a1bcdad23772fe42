package proof

import (
	"slices"

	"mizmaze/api"
	"mizmaze/auto"
	"mizmaze/color"
	"mizmaze/home"
	"mizmaze/maze"
	"mizmaze/mealy"
	"mizmaze/sets"
)

// proved reports whether a plain claim is proved.
func proved(c api.Claim) bool {
	switch c.Kind {
	case api.ClaimReset:
		return resets(c.Auto, c.Word)
	case api.ClaimNone:
		return auto.Valid(c.Auto) && keepsApart(c.Auto, c.Pairs)
	case api.ClaimRoad:
		same, e := color.Same(c.Auto, c.Other)
		return e == api.OK && same && resets(c.Other, c.Word)
	case api.ClaimPeriod:
		return auto.Valid(c.Auto) && goesAround(c.Auto, c.Number, c.Classes)
	case api.ClaimHome:
		homes, e := home.Homes(c.Mealy, c.Word)
		return e == api.OK && homes
	case api.ClaimAlike:
		return mealy.Valid(c.Mealy) && looksAlike(c.Mealy, c.Classes)
	case api.ClaimApart:
		return len(c.Pairs) == 1 && distinguishes(c.Mealy, c.Word, c.Pairs[0])
	case api.ClaimMaze:
		visits, e := maze.Check(c.Number, c.Doors, c.Word)
		return e == api.OK && visits
	}
	return false
}

// resets reports whether a word is a reset word of a valid automaton.
func resets(a api.Auto, word []int) bool {
	if !auto.Valid(a) {
		return false
	}
	image, e := auto.Image(a, sets.Below(len(a.Next)).List(), word)
	return e == api.OK && len(image) == 1
}

// keepsApart reports whether there are pairs, all of two states in order, and each letter leads from pairs to pairs.
func keepsApart(a api.Auto, pairs [][2]int) bool {
	kept := make([]sets.Set, len(a.Next)) // for each state the greater ones of its pairs
	for _, pair := range pairs {
		if pair[0] < 0 || pair[0] >= pair[1] || pair[1] >= len(a.Next) {
			return false
		}
		kept[pair[0]] = kept[pair[0]].With(pair[1])
	}
	for p, others := range kept {
		for q := range others.All {
			for x, s := range a.Next[p] {
				t := a.Next[q][x]
				if !kept[min(s, t)].Has(max(s, t)) {
					return false
				}
			}
		}
	}
	return len(pairs) > 0
}

// goesAround reports whether each letter leads from each class to the following one, and from the last one to the first one.
func goesAround(a api.Auto, count int, classes []int) bool {
	if count < 2 || count > api.MaxStates || len(classes) != len(a.Next) {
		return false
	}
	if slices.Min(classes) < 0 || slices.Max(classes) >= count {
		return false
	}
	for s, row := range a.Next {
		for _, t := range row {
			if classes[t] != (classes[s]+1)%count {
				return false
			}
		}
	}
	return true
}

// looksAlike reports whether states of the same class have the same outputs, and are led to states of the same class.
func looksAlike(m api.Mealy, classes []int) bool {
	if len(classes) != len(m.Next) {
		return false
	}
	for p := range classes {
		q := slices.Index(classes, classes[p]) // comparing with the first state of the class compares all of them
		for x := range m.Next[p] {
			if m.Out[p][x] != m.Out[q][x] || classes[m.Next[p][x]] != classes[m.Next[q][x]] {
				return false
			}
		}
	}
	return true
}

// distinguishes reports whether a word of a valid machine distinguishes two of its states.
func distinguishes(m api.Mealy, word []int, pair [2]int) bool {
	first, _, e := mealy.Run(m, pair[0], word)
	second, _, f := mealy.Run(m, pair[1], word)
	return e == api.OK && f == api.OK && !slices.Equal(first, second)
}
