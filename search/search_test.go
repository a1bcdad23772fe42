package search_test

import (
	"slices"
	"testing"

	"mizmaze/search"
)

// The places are the numbers modulo 7; letter 0 doubles them, letter 1 adds one.
func lead(place, letter int) int {
	if letter == 0 {
		return place * 2 % 7
	}
	return (place + 1) % 7
}

func TestWords(t *testing.T) {
	var places []int
	var words [][]int
	for place, word := range search.Words(1, 2, lead) {
		places = append(places, place)
		words = append(words, word())
	}
	if !slices.Equal(places, []int{1, 2, 4, 3, 5, 6, 0}) {
		t.Error(places)
	}
	for i, want := range [][]int{{}, {0}, {0, 0}, {0, 1}, {0, 0, 1}, {0, 1, 0}, {0, 1, 0, 1}} {
		if !slices.Equal(words[i], want) {
			t.Error(places[i], words[i])
		}
	}
}

func TestFirst(t *testing.T) {
	if word, ok := search.First(1, 2, lead, func(place int) bool { return place > 4 }); !ok || !slices.Equal(word, []int{0, 0, 1}) {
		t.Error(word, ok)
	}
	if word, ok := search.First(0, 1, lead, func(place int) bool { return place > 0 }); ok || word != nil {
		t.Error(word, ok)
	}
	if word, ok := search.First("a", 0, nil, func(string) bool { return true }); !ok || len(word) != 0 {
		t.Error(word, ok)
	}
}

func TestStopped(t *testing.T) {
	for place := range search.Words(1, 2, lead) {
		if place == 2 {
			break
		}
		if place != 1 {
			t.Error("not stopped")
		}
	}
}
