// Package sets keeps sets of states, or of rooms, as the bits of a number.
package sets

import "math/bits"

// Set is a set of states or rooms: api.MaxStates and api.MaxRooms are less than 64, thus every one has a bit.
type Set uint64

// Below returns the set of all states less than n.
func Below(n int) Set {
	return Set(1)<<n - 1
}

// Of returns the set of the states of a list.
func Of(list []int) Set {
	var s Set
	for _, x := range list {
		s = s.With(x)
	}
	return s
}

// With returns the set with one more state.
func (s Set) With(x int) Set {
	return s | Set(1)<<x
}

// Without returns the set without a state.
func (s Set) Without(x int) Set {
	return s &^ (Set(1) << x)
}

// Has reports whether a state belongs to the set.
func (s Set) Has(x int) bool {
	return s>>x&1 == 1
}

// Size returns the number of states.
func (s Set) Size() int {
	return bits.OnesCount64(uint64(s))
}

// All ranges over the states in increasing order.
func (s Set) All(yield func(int) bool) {
	for rest := uint64(s); rest != 0; rest &= rest - 1 {
		if !yield(bits.TrailingZeros64(rest)) {
			return
		}
	}
}

// List returns the states in increasing order.
func (s Set) List() []int {
	list := make([]int, 0, s.Size())
	for x := range s.All {
		list = append(list, x)
	}
	return list
}

// Image returns the states to which a letter leads from the set.
func (s Set) Image(next [][]int, letter int) Set {
	var image Set
	for x := range s.All {
		image = image.With(next[x][letter])
	}
	return image
}

// Preimage returns the states from which a letter leads into the set.
func (s Set) Preimage(next [][]int, letter int) Set {
	var preimage Set
	for x, row := range next {
		if s.Has(row[letter]) {
			preimage = preimage.With(x)
		}
	}
	return preimage
}
