package reset_test

import (
	"slices"
	"testing"

	"mizmaze/api"
	"mizmaze/auto"
	"mizmaze/net"
	"mizmaze/reset"
	"mizmaze/sample"
	"mizmaze/sets"
)

// cerny returns the automaton that needs the longest words: letter 0 leads around, letter 1 from the last state to 0.
func cerny(n int) api.Auto {
	var a api.Auto
	for s := range n {
		a.Next = append(a.Next, []int{(s + 1) % n, s % (n - 1)})
	}
	return a
}

// firstMerger tries all words up to a length in order, shorter ones first.
func firstMerger(a api.Auto, p, q, most int) ([]int, bool) {
	var try func(p, q, length int) ([]int, bool)
	try = func(p, q, length int) ([]int, bool) {
		if length == 0 {
			return nil, p == q
		}
		for x := range a.Next[p] {
			if rest, ok := try(a.Next[p][x], a.Next[q][x], length-1); ok {
				return append([]int{x}, rest...), true
			}
		}
		return nil, false
	}
	for length := range most + 1 {
		if word, ok := try(p, q, length); ok {
			return word, true
		}
	}
	return nil, false
}

// resets reports whether some word leads from all states to one, by a search through the sets of states.
func resets(a api.Auto) bool {
	found := []sets.Set{sets.Below(len(a.Next))}
	for i := 0; i < len(found); i++ {
		for x := range a.Next[0] {
			if image := found[i].Image(a.Next, x); !slices.Contains(found, image) {
				found = append(found, image)
			}
		}
	}
	return slices.ContainsFunc(found, func(s sets.Set) bool { return s.Size() == 1 })
}

func checkReset(t *testing.T, a api.Auto, word []int, e api.Errno) {
	t.Helper()
	n := len(a.Next)
	if e != api.OK || len(word) > (n*n*n-n)/6 {
		t.Fatal(a, len(word), e)
	}
	if image, e := auto.Image(a, sets.Below(n).List(), word); len(image) != 1 || e != api.OK {
		t.Fatal(a, word, image, e)
	}
}

func TestForm(t *testing.T) {
	for _, a := range sample.InvalidAutos() {
		if w, e := reset.Merge(a, -1, 0); w != nil || e != api.ErrForm {
			t.Error("Merge", a, e)
		}
		if l, e := reset.Apart(a); l != nil || e != api.ErrForm {
			t.Error("Apart", a, e)
		}
		if w, e := reset.Reset(a); w != nil || e != api.ErrForm {
			t.Error("Reset", a, e)
		}
	}
}

func TestMergeArguments(t *testing.T) {
	a := sample.ParseAuto("1.0 0.0")
	for _, p := range [][2]int{{-1, 0}, {0, -1}, {2, 0}, {0, 2}} {
		if w, e := reset.Merge(a, p[0], p[1]); w != nil || e != api.ErrArg {
			t.Error(p, e)
		}
	}
}

func TestMerge(t *testing.T) { // P3.4
	for a := range sample.SmallAutos() {
		if len(a.Next) > 4 {
			continue
		}
		for p := range a.Next {
			for q := range a.Next {
				word, e := reset.Merge(a, p, q)
				want, ok := firstMerger(a, p, q, 6)
				if ok != (e == api.OK) || !ok && e != api.ErrNone || !slices.Equal(word, want) {
					t.Fatal(a, p, q, word, want, e)
				}
			}
		}
	}
}

func TestMergeOne(t *testing.T) { // a state with itself: the empty word
	if w, e := reset.Merge(sample.ParseAuto("1.1 0.0"), 1, 1); len(w) != 0 || e != api.OK {
		t.Error(w, e)
	}
}

func TestReset(t *testing.T) { // P3.1
	for a := range sample.SmallAutos() {
		apart, ae := reset.Apart(a)
		word, e := reset.Reset(a)
		if ae != api.OK || (len(apart) == 0) != resets(a) {
			t.Fatal(a, apart, ae)
		}
		if len(apart) == 0 {
			checkReset(t, a, word, e)
		} else if word != nil || e != api.ErrNone {
			t.Fatal(a, word, e)
		}
	}
}

func TestApart(t *testing.T) { // P3.2
	for a := range sample.SmallAutos() {
		apart, _ := reset.Apart(a)
		for i, pair := range apart {
			if pair[0] >= pair[1] || i > 0 && slices.Compare(apart[i-1][:], pair[:]) >= 0 {
				t.Fatal(a, apart)
			}
			for x := range a.Next[0] {
				p, q := a.Next[pair[0]][x], a.Next[pair[1]][x]
				if !slices.Contains(apart, [2]int{min(p, q), max(p, q)}) {
					t.Fatal(a, apart, pair, x)
				}
			}
		}
		for p := range a.Next {
			for q := p + 1; q < len(a.Next); q++ {
				if _, e := reset.Merge(a, p, q); (e == api.ErrNone) != slices.Contains(apart, [2]int{p, q}) {
					t.Fatal(a, apart, p, q)
				}
			}
		}
	}
}

func TestMoreLetters(t *testing.T) { // P3.3
	next := sample.Numbers(3)
	for a := range sample.SmallAutos() {
		word, e := reset.Reset(a)
		if e != api.OK {
			continue
		}
		whole := slices.Concat([]int{next(len(a.Next[0]))}, word, []int{next(len(a.Next[0]))})
		if image, _ := auto.Image(a, sets.Below(len(a.Next)).List(), whole); len(image) != 1 {
			t.Fatal(a, whole)
		}
		// What a reset word leads to lies in the only sink (P2.4).
		end, _ := auto.Run(a, 0, whole)
		if sinks, _ := net.Sinks(a); len(sinks) != 1 || !slices.Contains(sinks[0], end) {
			t.Fatal(a, whole, sinks)
		}
	}
}

func TestLarge(t *testing.T) {
	word, e := reset.Reset(cerny(60))
	checkReset(t, cerny(60), word, e)
	next := sample.Numbers(5)
	for range 5 {
		a := sample.Auto(next, 60, 6)
		word, e := reset.Reset(a)
		checkReset(t, a, word, e)
	}
	cycle := api.Auto{}
	for s := range 60 {
		cycle.Next = append(cycle.Next, []int{(s + 1) % 60})
	}
	if l, e := reset.Apart(cycle); len(l) != 60*59/2 || e != api.OK {
		t.Error(len(l), e)
	}
}

func TestExamples(t *testing.T) {
	if w, e := reset.Merge(sample.ParseAuto("1.0 0.0"), 0, 1); !slices.Equal(w, []int{1}) || e != api.OK {
		t.Error(w, e)
	}
	a := sample.ParseAuto("1.1 0.0")
	if l, e := reset.Apart(a); !slices.Equal(l, [][2]int{{0, 1}}) || e != api.OK {
		t.Error(l, e)
	}
	if w, e := reset.Reset(a); w != nil || e != api.ErrNone {
		t.Error(w, e)
	}
	if w, e := reset.Reset(sample.ParseAuto("1.0 2.1 0.0")); len(w) > 4 || e != api.OK {
		t.Error(w, e)
	}
	if w, e := reset.Reset(sample.ParseAuto("0")); len(w) != 0 || e != api.OK {
		t.Error(w, e)
	}
}
