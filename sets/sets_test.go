package sets_test

import (
	"slices"
	"testing"

	"mizmaze/sets"
)

func TestSets(t *testing.T) {
	s := sets.Of([]int{0, 5, 59})
	if s.Size() != 3 || !s.Has(5) || s.Has(4) || !slices.Equal(s.List(), []int{0, 5, 59}) {
		t.Error(s.List())
	}
	if sets.Below(60).Size() != 60 || sets.Below(0) != 0 || sets.Below(3) != sets.Of([]int{2, 1, 0}) {
		t.Error("below")
	}
	if l := s.With(5).With(7).List(); !slices.Equal(l, []int{0, 5, 7, 59}) {
		t.Error(l)
	}
	if l := s.Without(5).Without(6).List(); !slices.Equal(l, []int{0, 59}) {
		t.Error(l)
	}
	for x := range s.All {
		if x == 5 {
			break
		}
		if x > 5 {
			t.Error("not stopped")
		}
	}
}

func TestLetters(t *testing.T) {
	next := [][]int{{1, 0}, {2, 1}, {0, 0}}
	if s := sets.Of([]int{0, 2}).Image(next, 1); s != sets.Of([]int{0}) {
		t.Error(s.List())
	}
	if s := sets.Of([]int{0}).Preimage(next, 1); s != sets.Of([]int{0, 2}) {
		t.Error(s.List())
	}
}
