package short_test

import (
	"slices"
	"testing"

	"mizmaze/api"
	"mizmaze/auto"
	"mizmaze/reset"
	"mizmaze/sample"
	"mizmaze/sets"
	"mizmaze/short"
)

// firstWord tries all words of up to most letters in order, shorter ones first, until one leads from all states to at most size states.
func firstWord(a api.Auto, size, most int) ([]int, bool) {
	var try func(set sets.Set, length int) ([]int, bool)
	try = func(set sets.Set, length int) ([]int, bool) {
		if length == 0 {
			return nil, set.Size() <= size
		}
		for x := range a.Next[0] {
			if rest, ok := try(set.Image(a.Next, x), length-1); ok {
				return append([]int{x}, rest...), true
			}
		}
		return nil, false
	}
	for length := range most + 1 {
		if word, ok := try(sets.Below(len(a.Next)), length); ok {
			return word, true
		}
	}
	return nil, false
}

func TestErrors(t *testing.T) {
	for _, a := range sample.InvalidAutos() {
		if w, e := short.Shortest(a); w != nil || e != api.ErrForm {
			t.Error("Shortest", a, e)
		}
		if r, w, e := short.Rank(a); r != 0 || w != nil || e != api.ErrForm {
			t.Error("Rank", a, e)
		}
	}
	for _, n := range []int{13, 60} {
		a := sample.Auto(sample.Numbers(3), n, 2)
		if w, e := short.Shortest(a); w != nil || e != api.ErrSize {
			t.Error("Shortest", e)
		}
		if r, w, e := short.Rank(a); r != 0 || w != nil || e != api.ErrSize {
			t.Error("Rank", e)
		}
	}
	for _, n := range []int{-1, 0, 1, 61} {
		if a, e := short.Cerny(n); a.Next != nil || e != api.ErrArg {
			t.Error("Cerny", n, e)
		}
	}
}

func TestShortest(t *testing.T) { // P4.1
	for a := range sample.SmallAutos() {
		word, e := short.Shortest(a)
		if apart, _ := reset.Apart(a); len(apart) > 0 {
			if word != nil || e != api.ErrNone {
				t.Fatal(a, word, e)
			}
			continue
		}
		if e != api.OK || len(word) > 9 {
			if image, _ := auto.Image(a, sets.Below(len(a.Next)).List(), word); e != api.OK || len(image) != 1 {
				t.Fatal(a, word, e)
			}
			continue
		}
		if want, ok := firstWord(a, 1, len(word)); !ok || !slices.Equal(word, want) {
			t.Fatal(a, word, want)
		}
	}
}

func TestRank(t *testing.T) { // P4.2
	for a := range sample.SmallAutos() {
		rank, word, e := short.Rank(a)
		apart, _ := reset.Apart(a)
		image, _ := auto.Image(a, sets.Below(len(a.Next)).List(), word)
		if e != api.OK || len(image) != rank || (rank == 1) != (len(apart) == 0) {
			t.Fatal(a, rank, word, e)
		}
		if _, ok := firstWord(a, rank-1, 7); ok {
			t.Fatal(a, rank)
		}
		if want, ok := firstWord(a, rank, min(len(word), 9)); ok != (len(word) <= 9) || ok && !slices.Equal(word, want) {
			t.Fatal(a, rank, word, want)
		}
	}
}

func TestCerny(t *testing.T) { // P4.3
	for n := 2; n <= api.MaxStates; n++ {
		a, e := short.Cerny(n)
		if e != api.OK || !auto.Valid(a) || len(a.Next) != n || len(a.Next[0]) != 2 {
			t.Fatal(n, e)
		}
		for s, row := range a.Next {
			if row[0] != (s+1)%n || row[1] != s%(n-1) {
				t.Fatal(n, s, row)
			}
		}
		if n > api.MaxSmall {
			continue
		}
		if word, e := short.Shortest(a); len(word) != (n-1)*(n-1) || e != api.OK {
			t.Error(n, len(word), e)
		}
	}
}

func TestSmall(t *testing.T) { // P4.4
	for n := 1; n <= 4; n++ {
		longest := 0
		for a := range sample.AllAutos(n, 2) {
			word, _ := short.Shortest(a)
			longest = max(longest, len(word))
		}
		if longest != (n-1)*(n-1) {
			t.Error(n, longest)
		}
	}
}

func TestLargest(t *testing.T) {
	a := sample.Auto(sample.Numbers(4), api.MaxSmall, api.MaxLetters)
	word, e := short.Shortest(a)
	if image, _ := auto.Image(a, sets.Below(api.MaxSmall).List(), word); len(image) != 1 || e != api.OK {
		t.Error(word, e)
	}
	cycle := api.Auto{}
	for s := range api.MaxSmall {
		cycle.Next = append(cycle.Next, []int{(s + 1) % api.MaxSmall})
	}
	if r, w, e := short.Rank(cycle); r != api.MaxSmall || len(w) != 0 || e != api.OK {
		t.Error(r, w, e)
	}
	if w, e := short.Shortest(cycle); w != nil || e != api.ErrNone {
		t.Error(w, e)
	}
}

func TestExamples(t *testing.T) {
	a, e := short.Cerny(3)
	if s, _ := auto.Text(a); s != "1.0 2.1 0.0" || e != api.OK {
		t.Error(s, e)
	}
	if w, e := short.Shortest(a); !slices.Equal(w, []int{1, 0, 0, 1}) || e != api.OK {
		t.Error(w, e)
	}
	if r, w, e := short.Rank(sample.ParseAuto("1.1 0.0")); r != 2 || len(w) != 0 || e != api.OK {
		t.Error(r, w, e)
	}
	if r, w, e := short.Rank(sample.ParseAuto("0")); r != 1 || len(w) != 0 || e != api.OK {
		t.Error(r, w, e)
	}
	if w, e := short.Shortest(sample.ParseAuto("0")); len(w) != 0 || e != api.OK {
		t.Error(w, e)
	}
}
