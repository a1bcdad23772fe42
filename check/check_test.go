package check_test

import (
	"slices"
	"testing"

	"mizmaze/api"
	"mizmaze/check"
	"mizmaze/mealy"
	"mizmaze/sample"
)

// machines returns small machines of all kinds, and large ones.
func machines() []api.Mealy {
	return append(slices.Collect(sample.SmallMachines()), sample.LargeMachines()...)
}

// fit reports whether a machine has a suite, as the chapter says.
func fit(m api.Mealy) bool {
	minimal, _ := mealy.Minimal(m)
	reached, _ := mealy.Reached(m, 0)
	return len(minimal.Next) == len(m.Next) && len(reached) == len(m.Next)
}

// ring returns a machine whose letter 0 leads around, and shows the last state.
func ring(states, letters int) api.Mealy {
	var m api.Mealy
	for s := range states {
		next, out := slices.Repeat([]int{s}, letters), make([]int, letters)
		next[0] = (s + 1) % states
		if s == states-1 {
			out[0] = 1
		}
		m.Next, m.Out = append(m.Next, next), append(m.Out, out)
	}
	return m
}

// allWords returns all words of at most that many letters, in order.
func allWords(letters, most int) [][]int {
	list := [][]int{{}}
	for x := 0; x < letters && most > 0; x++ {
		for _, rest := range allWords(letters, most-1) {
			list = append(list, append([]int{x}, rest...))
		}
	}
	return list
}

func ordered(list [][]int) bool {
	for i := 1; i < len(list); i++ {
		if slices.Compare(list[i-1], list[i]) >= 0 {
			return false
		}
	}
	return true
}

func sorted(list [][]int) [][]int {
	slices.SortFunc(list, slices.Compare)
	return slices.CompactFunc(list, slices.Equal)
}

func same(a, b [][]int) bool {
	return slices.EqualFunc(a, b, slices.Equal)
}

func TestForm(t *testing.T) {
	good := sample.ParseMealy("0/0")
	for _, m := range sample.InvalidMachines() {
		if l, e := check.Cover(m); l != nil || e != api.ErrForm {
			t.Error("Cover", m, e)
		}
		if l, e := check.Tellers(m); l != nil || e != api.ErrForm {
			t.Error("Tellers", m, e)
		}
		if l, e := check.Suite(m, -1); l != nil || e != api.ErrForm {
			t.Error("Suite", m, e)
		}
		if ok, e := check.Passes(m, good, [][]int{{-1}}); ok || e != api.ErrForm {
			t.Error("Passes", m, e)
		}
		if ok, e := check.Passes(good, m, [][]int{{-1}}); ok || e != api.ErrForm {
			t.Error("Passes", m, e)
		}
	}
}

func TestArguments(t *testing.T) {
	for _, m := range machines() {
		if fit(m) {
			continue
		}
		if l, e := check.Cover(m); l != nil || e != api.ErrArg {
			t.Fatal("Cover", m, e)
		}
		if l, e := check.Tellers(m); l != nil || e != api.ErrArg {
			t.Fatal("Tellers", m, e)
		}
		if l, e := check.Suite(m, 0); l != nil || e != api.ErrArg {
			t.Fatal("Suite", m, e)
		}
	}
	m := sample.ParseMealy("1/0.0/1 0/0.1/0")
	for _, extra := range []int{-1, api.MaxExtra + 1} {
		if l, e := check.Suite(m, extra); l != nil || e != api.ErrArg {
			t.Error("Suite", extra, e)
		}
		// Also where the suite would be too large.
		if l, e := check.Suite(ring(60, 6), extra); l != nil || e != api.ErrArg {
			t.Error("Suite", extra, e)
		}
	}
	for _, words := range [][][]int{{{2}}, {{0}, {-1}}, {{0, 1}, make([]int, api.MaxWord+1)}} {
		if ok, e := check.Passes(m, m, words); ok || e != api.ErrArg {
			t.Error("Passes", e)
		}
		// Also where an earlier word has other outputs.
		if ok, e := check.Passes(m, sample.ParseMealy("0/1.0/1"), append([][]int{{0}}, words...)); ok || e != api.ErrArg {
			t.Error("Passes", e)
		}
	}
	if ok, e := check.Passes(m, sample.ParseMealy("0/0"), nil); ok || e != api.ErrArg {
		t.Error("Passes", e)
	}
}

func TestCover(t *testing.T) { // P9.2
	for _, m := range machines() {
		if !fit(m) {
			continue
		}
		list, e := check.Cover(m)
		if e != api.OK || len(list) != len(m.Next) {
			t.Fatal(m, list, e)
		}
		for s, word := range list {
			if _, end, _ := mealy.Run(m, 0, word); end != s {
				t.Fatal(m, s, word)
			}
			if len(m.Next[0]) > 3 || len(m.Next) > 7 {
				continue
			}
			for _, other := range allWords(len(m.Next[0]), len(word)) {
				_, end, _ := mealy.Run(m, 0, other)
				if end == s && (len(other) < len(word) || slices.Compare(other, word) < 0) {
					t.Fatal(m, s, word, other)
				}
			}
		}
	}
}

func TestTellers(t *testing.T) { // P9.2
	for _, m := range machines() {
		if !fit(m) {
			continue
		}
		list, e := check.Tellers(m)
		var want [][]int
		for x := range m.Next {
			for y := range m.Next {
				if word, e := mealy.Apart(m, x, y); e == api.OK {
					want = append(want, word)
				}
			}
		}
		if len(m.Next) == 1 {
			want = [][]int{{}}
		}
		if e != api.OK || !ordered(list) || !same(list, sorted(want)) {
			t.Fatal(m, list, want, e)
		}
	}
}

func TestSuite(t *testing.T) {
	for _, m := range machines() {
		if !fit(m) || len(m.Next) > 7 {
			continue
		}
		first, _ := check.Cover(m)
		last, _ := check.Tellers(m)
		for extra := range api.MaxExtra + 1 {
			var want [][]int
			for _, u := range first {
				for _, v := range allWords(len(m.Next[0]), extra+1) {
					for _, w := range last {
						want = append(want, slices.Concat(u, v, w))
					}
				}
			}
			list, e := check.Suite(m, extra)
			if e != api.OK || !ordered(list) || !same(list, sorted(want)) {
				t.Fatal(m, extra, len(list), e)
			}
		}
	}
}

func TestMoreExtra(t *testing.T) { // P9.3
	for _, m := range machines() {
		if !fit(m) {
			continue
		}
		for extra := range api.MaxExtra {
			list, _ := check.Suite(m, extra)
			more, e := check.Suite(m, extra+1)
			for i := range list {
				if _, found := slices.BinarySearchFunc(more, list[i], slices.Compare[[]int]); !found && e == api.OK {
					t.Fatal(m, extra, list[i])
				}
			}
		}
	}
}

// Every machine that passes is equivalent, among all of a size (P9.1); and equivalent ones pass (P9.4).
func TestPassing(t *testing.T) {
	for _, c := range []struct {
		machine string
		extra   int
		states  int // of the other machines
	}{
		{"0/0.0/1", 0, 1},
		{"0/0.0/1", 1, 2},
		{"0/0.0/1", 2, 3},
		{"1/0.0/1 0/0.1/0", 0, 2},
		{"1/0.0/1 0/0.1/0", 1, 3},
		{"1/1.0/0 0/0.0/0", 1, 3},
		{"1/0 2/0 0/1", 0, 3},
		{"1/0 2/0 0/1", 1, 4},
		{"1/0 2/0 2/1", 1, 4},
		{"1/0 0/1", 2, 4},
		{"1/0.0/0 2/0.0/0 0/1.2/1", 0, 3},
	} {
		m := sample.ParseMealy(c.machine)
		suite, e := check.Suite(m, c.extra)
		if e != api.OK {
			t.Fatal(c, e)
		}
		passed := 0
		for other := range sample.AllMachines(c.states, len(m.Next[0])) {
			equal, _, _ := mealy.Equal(m, 0, other, 0)
			passes, e := check.Passes(m, other, suite)
			if passes != equal || e != api.OK {
				t.Fatal(c, other, passes, equal, e)
			}
			if passes {
				passed++
			}
		}
		if passed == 0 {
			t.Error(c)
		}
	}
}

// A suite without further states does not find every machine with one more.
func TestTooManyStates(t *testing.T) {
	m := sample.ParseMealy("0/0.0/1")
	suite, _ := check.Suite(m, 0)
	found := false
	for other := range sample.AllMachines(2, 2) {
		equal, _, _ := mealy.Equal(m, 0, other, 0)
		passes, _ := check.Passes(m, other, suite)
		found = found || passes && !equal
	}
	if !found {
		t.Error("the suite has more words than it needs")
	}
}

func TestPasses(t *testing.T) { // P9.4
	next := sample.Numbers(1)
	for _, m := range machines() {
		n, letters := len(m.Next), len(m.Next[0])
		other := sample.Unfolded(next, m, n+next(min(4, 61-n)))
		var words [][]int
		for range next(4) {
			words = append(words, sample.Word(next, letters, next(7)))
		}
		if ok, e := check.Passes(m, m, words); !ok || e != api.OK {
			t.Fatal(m, words, e)
		}
		if ok, e := check.Passes(m, other, words); !ok || e != api.OK {
			t.Fatal(m, other, words, e)
		}
		other.Out[next(n)][next(letters)] = next(2)
		want := true
		for _, word := range words {
			first, _, _ := mealy.Run(m, 0, word)
			second, _, _ := mealy.Run(other, 0, word)
			want = want && slices.Equal(first, second)
		}
		if ok, e := check.Passes(m, other, words); ok != want || e != api.OK {
			t.Fatal(m, other, words, e)
		}
	}
}

func TestSize(t *testing.T) {
	// A word of a ring of one letter is a number: from 1 to 59 + 3 + 59.
	if l, e := check.Suite(ring(60, 1), 2); len(l) != 121 || e != api.OK {
		t.Error(len(l), e)
	}
	for _, c := range []struct{ states, letters, extra, count int }{
		{26, 6, 1, 19807},
		{57, 3, 1, 19492},
		{41, 4, 1, 20005},
		{27, 6, 1, 21379},
	} {
		m := ring(c.states, c.letters)
		if count := countSuite(m, c.extra); count != c.count {
			t.Fatal(c, count)
		}
		l, e := check.Suite(m, c.extra)
		if c.count <= api.MaxTests && (len(l) != c.count || e != api.OK) || c.count > api.MaxTests && (l != nil || e != api.ErrSize) {
			t.Error(c, len(l), e)
		}
	}
	if l, e := check.Suite(ring(60, 6), 2); l != nil || e != api.ErrSize {
		t.Error(len(l), e)
	}
	for _, m := range sample.LargeMachines() {
		if l, e := check.Suite(m, 2); fit(m) && (l != nil || e != api.ErrSize) {
			t.Error(len(l), e)
		}
	}
}

// countSuite counts the words of a suite by their strings.
func countSuite(m api.Mealy, extra int) int {
	first, _ := check.Cover(m)
	last, _ := check.Tellers(m)
	seen := map[string]bool{}
	for _, u := range first {
		for _, v := range allWords(len(m.Next[0]), extra+1) {
			for _, w := range last {
				var key []byte
				for _, x := range slices.Concat(u, v, w) {
					key = append(key, byte(x))
				}
				seen[string(key)] = true
			}
		}
	}
	return len(seen)
}

func TestMemory(t *testing.T) { // no two words of a result share memory
	m := sample.ParseMealy("1/0.0/1 0/0.1/0")
	list, _ := check.Suite(m, 2)
	for i := range list {
		list[i] = append(list[i], 9)
	}
	for i, word := range list {
		if slices.Contains(word[:len(word)-1], 9) || word[len(word)-1] != 9 {
			t.Error(i, word)
		}
	}
}

func TestExamples(t *testing.T) {
	m := sample.ParseMealy("1/0.0/1 0/0.1/0")
	if l, e := check.Cover(m); !same(l, [][]int{{}, {0}}) || e != api.OK {
		t.Error(l, e)
	}
	if l, e := check.Tellers(m); !same(l, [][]int{{1}}) || e != api.OK {
		t.Error(l, e)
	}
	if l, e := check.Suite(m, 0); !same(l, [][]int{{0, 0, 1}, {0, 1}, {0, 1, 1}, {1}, {1, 1}}) || e != api.OK {
		t.Error(l, e)
	}
	one := sample.ParseMealy("0/3.0/1")
	if l, e := check.Tellers(one); !same(l, [][]int{{}}) || e != api.OK {
		t.Error(l, e)
	}
	if l, e := check.Suite(one, 0); !same(l, [][]int{{}, {0}, {1}}) || e != api.OK {
		t.Error(l, e)
	}
	if ok, e := check.Passes(one, m, nil); !ok || e != api.OK {
		t.Error(ok, e)
	}
}
