package home_test

import (
	"slices"
	"testing"

	"mizmaze/api"
	"mizmaze/auto"
	"mizmaze/home"
	"mizmaze/mealy"
	"mizmaze/reset"
	"mizmaze/sample"
	"mizmaze/search"
	"mizmaze/sets"
)

// machines returns small machines of all kinds, and large ones.
func machines() []api.Mealy {
	return append(slices.Collect(sample.SmallMachines()), sample.LargeMachines()...)
}

func minimal(m api.Mealy) bool {
	classes, _ := mealy.Classes(m)
	return slices.Max(classes) == len(classes)-1
}

// homes and tells compare the outputs from each two states, as the terms say.
func homes(m api.Mealy, word []int) bool {
	return each(m, word, func(sameOuts, sameEnd bool) bool { return !sameOuts || sameEnd })
}

func tells(m api.Mealy, word []int) bool {
	return each(m, word, func(sameOuts, sameEnd bool) bool { return !sameOuts })
}

func each(m api.Mealy, word []int, holds func(sameOuts, sameEnd bool) bool) bool {
	for p := range m.Next {
		for q := range p {
			first, end, _ := mealy.Run(m, p, word)
			second, other, _ := mealy.Run(m, q, word)
			if !holds(slices.Equal(first, second), end == other) {
				return false
			}
		}
	}
	return true
}

// situation is, for each of at most four states where it may have begun, the state where it is, and the first of
// the states that have had the same outputs.
type situation [4][2]int

// firstWord searches through all situations for the first shortest word with a property of its situation.
func firstWord(m api.Mealy, holds func(a, b [2]int) bool) ([]int, bool) {
	n := len(m.Next)
	var start situation
	for s := range n {
		start[s] = [2]int{s, 0}
	}
	lead := func(now situation, x int) situation {
		var then situation
		for s := range n {
			class := slices.IndexFunc(now[:], func(other [2]int) bool {
				return other[1] == now[s][1] && m.Out[other[0]][x] == m.Out[now[s][0]][x]
			})
			then[s] = [2]int{m.Next[now[s][0]][x], class}
		}
		return then
	}
	return search.First(start, len(m.Next[0]), lead, func(now situation) bool {
		for p := range n {
			for q := range p {
				if !holds(now[p], now[q]) {
					return false
				}
			}
		}
		return true
	})
}

func TestForm(t *testing.T) {
	for _, m := range sample.InvalidMachines() {
		if ok, e := home.Homes(m, []int{-1}); ok || e != api.ErrForm {
			t.Error("Homes", m, e)
		}
		if ok, e := home.Tells(m, []int{-1}); ok || e != api.ErrForm {
			t.Error("Tells", m, e)
		}
		if w, e := home.Home(m); w != nil || e != api.ErrForm {
			t.Error("Home", m, e)
		}
		if w, e := home.Shortest(m); w != nil || e != api.ErrForm {
			t.Error("Shortest", m, e)
		}
		if w, e := home.Telling(m); w != nil || e != api.ErrForm {
			t.Error("Telling", m, e)
		}
		if w, s, e := home.Seek(m, -1); w != nil || s != 0 || e != api.ErrForm {
			t.Error("Seek", m, e)
		}
	}
}

func TestArguments(t *testing.T) {
	m := sample.ParseMealy("1/0.0/1 0/0.1/0")
	for _, word := range [][]int{{2}, {1, -1}, make([]int, api.MaxWord+1)} {
		if ok, e := home.Homes(m, word); ok || e != api.ErrArg {
			t.Error("Homes", e)
		}
		if ok, e := home.Tells(m, word); ok || e != api.ErrArg {
			t.Error("Tells", e)
		}
	}
	for _, s := range []int{-1, 2} {
		if w, r, e := home.Seek(m, s); w != nil || r != 0 || e != api.ErrArg {
			t.Error("Seek", s, e)
		}
	}
	same := sample.ParseMealy("0/0 0/0")
	if w, r, e := home.Seek(same, 2); w != nil || r != 0 || e != api.ErrArg {
		t.Error("Seek", e)
	}
	if w, r, e := home.Seek(same, 1); w != nil || r != 0 || e != api.ErrNone {
		t.Error("Seek", e)
	}
	for _, n := range []int{8, 60} {
		big := sample.Mealy(sample.Numbers(1), n, 2, 2)
		if w, e := home.Shortest(big); w != nil || e != api.ErrSize {
			t.Error("Shortest", e)
		}
		if w, e := home.Telling(big); w != nil || e != api.ErrSize {
			t.Error("Telling", e)
		}
	}
}

func TestHomesAndTells(t *testing.T) {
	next := sample.Numbers(2)
	found := [4]int{}
	for _, m := range machines() {
		word := sample.Word(next, len(m.Next[0]), next(8))
		wantHome, wantTell := homes(m, word), tells(m, word)
		homing, e := home.Homes(m, word)
		telling, f := home.Tells(m, word)
		if homing != wantHome || telling != wantTell || e != api.OK || f != api.OK {
			t.Fatal(m, word, homing, telling, e, f)
		}
		if homing {
			found[0]++
		} else {
			found[1]++
		}
		if telling {
			found[2]++
		} else {
			found[3]++
		}
	}
	if slices.Min(found[:]) < 50 {
		t.Error(found)
	}
}

func TestMoreLetters(t *testing.T) { // P8.2
	next := sample.Numbers(3)
	for _, m := range machines() {
		word := sample.Word(next, len(m.Next[0]), next(6))
		longer := append(slices.Clone(word), sample.Word(next, len(m.Next[0]), next(3))...)
		homing, _ := home.Homes(m, word)
		telling, _ := home.Tells(m, word)
		homeThen, _ := home.Homes(m, longer)
		tellThen, _ := home.Tells(m, longer)
		if telling && !homing || homing && !homeThen || telling && !tellThen {
			t.Fatal(m, word, longer)
		}
	}
}

func TestHome(t *testing.T) { // P8.1
	found := 0
	for _, m := range machines() {
		n := len(m.Next)
		word, e := home.Home(m)
		if e == api.ErrNone {
			if minimal(m) || word != nil || !hopeless(m) {
				t.Fatal(m, word)
			}
			continue
		}
		found++
		most := (n - 1) * n * (n - 1) / 2
		if minimal(m) {
			most = (n - 1) * (n - 1)
		}
		if e != api.OK || len(word) > most || !homes(m, word) {
			t.Fatal(m, word, most, e)
		}
	}
	if found < 200 {
		t.Error(found)
	}
}

// hopeless reports whether some two states are neither merged nor distinguished by any word.
func hopeless(m api.Mealy) bool {
	classes, _ := mealy.Classes(m)
	apart, _ := reset.Apart(api.Auto{Next: m.Next})
	return slices.ContainsFunc(apart, func(pair [2]int) bool { return classes[pair[0]] == classes[pair[1]] })
}

func TestShortest(t *testing.T) { // P8.3
	homed := func(a, b [2]int) bool { return a[1] != b[1] || a[0] == b[0] }
	told := func(a, b [2]int) bool { return a[1] != b[1] }
	for _, m := range machines() {
		if len(m.Next) > api.MaxFew {
			continue
		}
		word, e := home.Shortest(m)
		if e == api.OK != !hopeless(m) || e == api.OK && !homes(m, word) || e != api.OK && (e != api.ErrNone || word != nil) {
			t.Fatal(m, word, e)
		}
		telling, f := home.Telling(m)
		if f == api.OK && !tells(m, telling) || f != api.OK && (f != api.ErrNone || telling != nil) {
			t.Fatal(m, telling, f)
		}
		if len(m.Next) > 4 {
			continue
		}
		if want, ok := firstWord(m, homed); ok != (e == api.OK) || !slices.Equal(word, want) {
			t.Fatal(m, word, want, e)
		}
		if want, ok := firstWord(m, told); ok != (f == api.OK) || !slices.Equal(telling, want) {
			t.Fatal(m, telling, want, f)
		}
	}
}

func TestSeek(t *testing.T) { // P8.4
	for _, m := range machines() {
		for s := range m.Next {
			word, end, e := home.Seek(m, s)
			if !minimal(m) {
				if word != nil || end != 0 || e != api.ErrNone {
					t.Fatal(m, s, word, end, e)
				}
				continue
			}
			n := len(m.Next)
			if _, want, _ := mealy.Run(m, s, word); end != want || e != api.OK || len(word) > n*(n-1)/2 {
				t.Fatal(m, s, word, end, want, e)
			}
			if n <= 5 && !slices.Equal(word, sought(m, s)) {
				t.Fatal(m, s, word, sought(m, s))
			}
		}
	}
}

// sought does what the document says, with the words of mealy.Apart and the outputs of mealy.Run.
func sought(m api.Mealy, s int) []int {
	var whole []int
	for possible := sets.Below(len(m.Next)).List(); len(possible) > 1; {
		var best []int
		for _, p := range possible {
			for _, q := range possible {
				word, e := mealy.Apart(m, p, q)
				if e == api.OK && (best == nil || len(word) < len(best) || len(word) == len(best) && slices.Compare(word, best) < 0) {
					best = word
				}
			}
		}
		outs, at, _ := mealy.Run(m, s, best)
		var left sets.Set
		for _, p := range possible {
			if same, end, _ := mealy.Run(m, p, best); slices.Equal(same, outs) {
				left = left.With(end)
			}
		}
		possible, s = left.List(), at
		whole = append(whole, best...)
	}
	return whole
}

func TestResets(t *testing.T) { // P8.5
	next := sample.Numbers(4)
	for a := range sample.SmallAutos() {
		m := sample.Mealy(next, len(a.Next), len(a.Next[0]), 1)
		m.Next = a.Next
		word := sample.Word(next, len(a.Next[0]), next(8))
		image, _ := auto.Image(a, sets.Below(len(a.Next)).List(), word)
		if homing, e := home.Homes(m, word); homing != (len(image) == 1) || e != api.OK {
			t.Fatal(m, word, homing, e)
		}
		_, e := home.Home(m)
		if _, f := reset.Reset(a); e != f {
			t.Fatal(m, e, f)
		}
	}
}

func TestLongest(t *testing.T) {
	m := sample.LargeMachines()[1]
	word := make([]int, api.MaxWord)
	if _, e := home.Homes(m, word); e != api.OK {
		t.Error(e)
	}
	if _, e := home.Tells(m, word); e != api.OK {
		t.Error(e)
	}
	// Cerny's automaton without outputs: the homing words are its reset words, and long.
	var silent api.Mealy
	for s := range 60 {
		silent.Next = append(silent.Next, []int{(s + 1) % 60, s % 59})
		silent.Out = append(silent.Out, []int{0, 0})
	}
	word, e := home.Home(silent)
	if e != api.OK || len(word) < 59*59 || !homes(silent, word) {
		t.Error(len(word), e)
	}
}

func TestExamples(t *testing.T) {
	m := sample.ParseMealy("1/0.0/1 0/0.1/0")
	if ok, e := home.Homes(m, []int{1}); !ok || e != api.OK {
		t.Error(ok, e)
	}
	if ok, e := home.Tells(m, []int{1}); !ok || e != api.OK {
		t.Error(ok, e)
	}
	if w, s, e := home.Seek(m, 1); !slices.Equal(w, []int{1}) || s != 1 || e != api.OK {
		t.Error(w, s, e)
	}
	if w, e := home.Home(sample.ParseMealy("1/0 0/0")); w != nil || e != api.ErrNone {
		t.Error(w, e)
	}
	m = sample.ParseMealy("0/0 0/0")
	if w, e := home.Shortest(m); !slices.Equal(w, []int{0}) || e != api.OK {
		t.Error(w, e)
	}
	if w, e := home.Telling(m); w != nil || e != api.ErrNone {
		t.Error(w, e)
	}
	m = sample.ParseMealy("0/0")
	if w, e := home.Home(m); len(w) != 0 || e != api.OK {
		t.Error(w, e)
	}
	if w, e := home.Telling(m); len(w) != 0 || e != api.OK {
		t.Error(w, e)
	}
	if w, s, e := home.Seek(m, 0); len(w) != 0 || s != 0 || e != api.OK {
		t.Error(w, s, e)
	}
}
