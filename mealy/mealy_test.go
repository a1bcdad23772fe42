package mealy_test

import (
	"reflect"
	"slices"
	"strings"
	"testing"

	"mizmaze/api"
	"mizmaze/mealy"
	"mizmaze/sample"
)

// machines returns small machines of all kinds, and large ones.
func machines() []api.Mealy {
	return append(slices.Collect(sample.SmallMachines()), sample.LargeMachines()...)
}

// follow goes letter by letter, as the terms say.
func follow(m api.Mealy, s int, word []int) ([]int, int) {
	var outs []int
	for _, x := range word {
		outs = append(outs, m.Out[s][x])
		s = m.Next[s][x]
	}
	return outs, s
}

// equivalent returns for all pairs of states of two machines whether they are equivalent: what no letter refutes.
func equivalent(a, b api.Mealy) [][]bool {
	alike := make([][]bool, len(a.Next))
	for x := range alike {
		alike[x] = slices.Repeat([]bool{true}, len(b.Next))
	}
	for changed := true; changed; {
		changed = false
		for x := range a.Next {
			for y := range b.Next {
				for l := range a.Next[0] {
					if alike[x][y] && (a.Out[x][l] != b.Out[y][l] || !alike[a.Next[x][l]][b.Next[y][l]]) {
						alike[x][y] = false
						changed = true
					}
				}
			}
		}
	}
	return alike
}

// firstWord tries all words of up to most letters in order, shorter ones first, until one distinguishes the states.
func firstWord(a api.Mealy, x int, b api.Mealy, y, most int) ([]int, bool) {
	var try func(word []int, length int) ([]int, bool)
	try = func(word []int, length int) ([]int, bool) {
		if length == 0 {
			first, _ := follow(a, x, word)
			second, _ := follow(b, y, word)
			return word, !slices.Equal(first, second)
		}
		for l := range a.Next[0] {
			if found, ok := try(append(slices.Clone(word), l), length-1); ok {
				return found, true
			}
		}
		return nil, false
	}
	for length := range most + 1 {
		if word, ok := try(nil, length); ok {
			return word, true
		}
	}
	return nil, false
}

func TestValid(t *testing.T) {
	for _, m := range machines() {
		if !mealy.Valid(m) {
			t.Error("not valid:", m)
		}
	}
	for _, m := range sample.InvalidMachines() {
		if mealy.Valid(m) {
			t.Error("valid:", m)
		}
	}
}

func TestForm(t *testing.T) {
	good := sample.ParseMealy("0/0")
	for _, m := range sample.InvalidMachines() {
		if o, s, e := mealy.Run(m, -1, nil); o != nil || s != 0 || e != api.ErrForm {
			t.Error("Run", m, e)
		}
		if l, e := mealy.Reached(m, -1); l != nil || e != api.ErrForm {
			t.Error("Reached", m, e)
		}
		if l, e := mealy.Classes(m); l != nil || e != api.ErrForm {
			t.Error("Classes", m, e)
		}
		if n, e := mealy.Minimal(m); n.Next != nil || n.Out != nil || e != api.ErrForm {
			t.Error("Minimal", m, e)
		}
		if w, e := mealy.Apart(m, -1, 0); w != nil || e != api.ErrForm {
			t.Error("Apart", m, e)
		}
		if ok, w, e := mealy.Equal(m, -1, good, 0); ok || w != nil || e != api.ErrForm {
			t.Error("Equal", m, e)
		}
		if ok, w, e := mealy.Equal(good, -1, m, 0); ok || w != nil || e != api.ErrForm {
			t.Error("Equal", m, e)
		}
		if s, e := mealy.Text(m); s != "" || e != api.ErrForm {
			t.Error("Text", m, e)
		}
	}
}

func TestArguments(t *testing.T) {
	m := sample.ParseMealy("1/0.0/1 0/0.1/0")
	for _, s := range []int{-1, 2} {
		if o, r, e := mealy.Run(m, s, nil); o != nil || r != 0 || e != api.ErrArg {
			t.Error("Run", s, e)
		}
		if l, e := mealy.Reached(m, s); l != nil || e != api.ErrArg {
			t.Error("Reached", s, e)
		}
		if w, e := mealy.Apart(m, s, 0); w != nil || e != api.ErrArg {
			t.Error("Apart", s, e)
		}
		if w, e := mealy.Apart(m, 0, s); w != nil || e != api.ErrArg {
			t.Error("Apart", s, e)
		}
		if ok, w, e := mealy.Equal(m, s, m, 0); ok || w != nil || e != api.ErrArg {
			t.Error("Equal", s, e)
		}
		if ok, w, e := mealy.Equal(m, 0, m, s); ok || w != nil || e != api.ErrArg {
			t.Error("Equal", s, e)
		}
	}
	if w, e := mealy.Apart(m, 2, 2); w != nil || e != api.ErrArg {
		t.Error("Apart", w, e)
	}
	for _, word := range [][]int{{2}, {0, -1}, make([]int, api.MaxWord+1)} {
		if o, s, e := mealy.Run(m, 1, word); o != nil || s != 0 || e != api.ErrArg {
			t.Error("Run", e)
		}
	}
	if ok, w, e := mealy.Equal(m, 0, sample.ParseMealy("0/0"), 0); ok || w != nil || e != api.ErrArg {
		t.Error("Equal", ok, w, e)
	}
	if o, s, e := mealy.Run(m, 1, make([]int, api.MaxWord)); len(o) != api.MaxWord || s != 1 || e != api.OK {
		t.Error("Run", len(o), s, e)
	}
}

func TestParts(t *testing.T) { // P7.1
	next := sample.Numbers(1)
	for _, m := range machines() {
		letters := len(m.Next[0])
		u, v := sample.Word(next, letters, next(6)), sample.Word(next, letters, next(6))
		for s := range m.Next {
			first, middle, e := mealy.Run(m, s, u)
			second, end, f := mealy.Run(m, middle, v)
			whole, reached, g := mealy.Run(m, s, slices.Concat(u, v))
			if e != api.OK || f != api.OK || g != api.OK || reached != end || !slices.Equal(whole, slices.Concat(first, second)) {
				t.Fatal(m, s, u, v)
			}
			if want, at := follow(m, s, u); !slices.Equal(first, want) || middle != at {
				t.Fatal(m, s, u)
			}
		}
	}
}

func TestReached(t *testing.T) {
	for _, m := range machines() {
		for s := range m.Next {
			reached, e := mealy.Reached(m, s)
			if e != api.OK || !slices.Contains(reached, s) || !slices.IsSorted(reached) {
				t.Fatal(m, s, reached, e)
			}
			count := 0
			for q := range m.Next {
				from := false // whether a state that is reached leads there
				for _, p := range reached {
					from = from || slices.Contains(m.Next[p], q)
				}
				if from || q == s {
					count++
				}
			}
			if count != len(reached) {
				t.Fatal(m, s, reached)
			}
		}
	}
	if l, e := mealy.Reached(sample.ParseMealy("1/0 2/0 1/0 0/0"), 0); !slices.Equal(l, []int{0, 1, 2}) || e != api.OK {
		t.Error(l, e)
	}
}

func TestClasses(t *testing.T) { // P7.2
	for _, m := range machines() {
		classes, e := mealy.Classes(m)
		if e != api.OK || len(classes) != len(m.Next) {
			t.Fatal(m, classes, e)
		}
		alike := equivalent(m, m)
		count := 0
		for x, class := range classes {
			for y := range classes {
				if alike[x][y] != (class == classes[y]) {
					t.Fatal(m, classes, x, y)
				}
			}
			if class > count {
				t.Fatal(m, classes)
			}
			count = max(count, class+1)
		}
	}
}

func TestMinimal(t *testing.T) { // P7.2
	for _, m := range machines() {
		minimal, e := mealy.Minimal(m)
		classes, _ := mealy.Classes(m)
		if e != api.OK || !mealy.Valid(minimal) || len(minimal.Next) != slices.Max(classes)+1 {
			t.Fatal(m, minimal, e)
		}
		alike := equivalent(m, minimal)
		for s, class := range classes {
			if !alike[s][class] {
				t.Fatal(m, minimal, s)
			}
		}
		own, _ := mealy.Classes(minimal)
		if again, e := mealy.Minimal(minimal); e != api.OK || !reflect.DeepEqual(again, minimal) || !slices.Equal(own, sortedUnique(classes)) {
			t.Fatal(m, minimal, again)
		}
	}
}

func sortedUnique(list []int) []int {
	list = slices.Clone(list)
	slices.Sort(list)
	return slices.Compact(list)
}

func TestApart(t *testing.T) { // P7.3
	for _, m := range machines() {
		classes, _ := mealy.Classes(m)
		most := slices.Max(classes)
		for x := range m.Next {
			for y := range m.Next {
				word, e := mealy.Apart(m, x, y)
				if classes[x] == classes[y] {
					if word != nil || e != api.ErrNone {
						t.Fatal(m, x, y, word, e)
					}
					continue
				}
				first, _ := follow(m, x, word)
				second, _ := follow(m, y, word)
				last := len(word) - 1
				if e != api.OK || last < 0 || last >= most || first[last] == second[last] || !slices.Equal(first[:last], second[:last]) {
					t.Fatal(m, x, y, word, e)
				}
				if want, ok := firstWord(m, x, m, y, min(len(word), 5)); ok != (len(word) <= 5) || ok && !slices.Equal(word, want) {
					t.Fatal(m, x, y, word, want)
				}
			}
		}
		if len(m.Next) == api.MaxStates {
			break // one large machine is enough
		}
	}
}

func TestLongApart(t *testing.T) { // P7.3: the counter needs as many letters as there can be
	large := sample.LargeMachines()
	counter := large[len(large)-1]
	word, e := mealy.Apart(counter, 58, 59)
	if e != api.OK || len(word) != 59 || slices.Max(word) != 0 {
		t.Error(len(word), e)
	}
}

func TestEqual(t *testing.T) { // P7.3
	next := sample.Numbers(2)
	found := [2]int{}
	for _, a := range machines() {
		letters := len(a.Next[0])
		b := sample.Unfolded(next, a, len(a.Next)+next(min(4, 61-len(a.Next))))
		if next(2) == 0 {
			b.Out[next(len(b.Next))][next(letters)] = next(2)
		}
		alike := equivalent(a, b)
		for range 20 {
			x, y := next(len(a.Next)), next(len(b.Next))
			equal, word, e := mealy.Equal(a, x, b, y)
			if e != api.OK || equal != alike[x][y] || len(word) >= len(a.Next)+len(b.Next) {
				t.Fatal(a, b, x, y, equal, word, e)
			}
			if equal {
				found[0]++
				if word != nil {
					t.Fatal(a, b, x, y, word)
				}
				continue
			}
			found[1]++
			first, _ := follow(a, x, word)
			second, _ := follow(b, y, word)
			want, ok := firstWord(a, x, b, y, min(len(word), 5))
			if slices.Equal(first, second) || ok && !slices.Equal(word, want) || !ok && len(word) <= 5 {
				t.Fatal(a, b, x, y, word, want)
			}
		}
	}
	if found[0] < 100 || found[1] < 100 {
		t.Error(found)
	}
}

func TestStrings(t *testing.T) { // P7.4
	next := sample.Numbers(3)
	for _, m := range machines() {
		s, e := mealy.Text(m)
		if e != api.OK {
			t.Fatal(m, e)
		}
		if n, e := mealy.Parse(s); e != api.OK || !reflect.DeepEqual(m, n) {
			t.Fatal(s, n, e)
		}
		i := next(len(s))
		changed := s[:i] + string("0123456789. -+/x"[next(16)]) + s[i+1:]
		n, e := mealy.Parse(changed)
		if again, _ := mealy.Text(n); e == api.OK && again != changed || e != api.OK && (e != api.ErrParse || n.Next != nil || n.Out != nil) {
			t.Fatal(changed, n, e)
		}
	}
}

func TestParseRefuses(t *testing.T) {
	for _, s := range []string{
		"", " ", ".", "/", "0", "0/", "/0", "0/0 ", " 0/0", "0/0.", "0/0/0", "0//0", "1/0", "-0/0", "0/-1", "0/16", "0/+1", "00/0", "0/00", "0/01",
		"1/0.0/1  0/0.1/1", "1/0.0/1 0/0", "0/0.0/0.0/0.0/0.0/0.0/0.0/0", "0/0\n", "0 /0", "0/99999999999999999999",
		strings.Repeat("0/0 ", 60) + "0/0", strings.Repeat("0/0 ", 100000),
	} {
		if m, e := mealy.Parse(s); e != api.ErrParse || m.Next != nil || m.Out != nil {
			t.Errorf("%q: %v %d", s, m, e)
		}
	}
	longest := strings.TrimSuffix(strings.Repeat(strings.TrimSuffix(strings.Repeat("59/15.", 6), ".")+" ", 60), " ")
	if m, e := mealy.Parse(longest); e != api.OK || len(m.Next) != 60 {
		t.Error(e)
	}
}

func TestMemory(t *testing.T) {
	m := sample.ParseMealy("1/0.0/1 0/0.1/0")
	minimal, _ := mealy.Minimal(m)
	minimal.Next[0][0], minimal.Out[0][0] = 9, 9
	if s, _ := mealy.Text(m); s != "1/0.0/1 0/0.1/0" {
		t.Error(s)
	}
}

func TestExamples(t *testing.T) {
	if l, e := mealy.Classes(sample.ParseMealy("1/0.0/1 0/0.1/1")); !slices.Equal(l, []int{0, 0}) || e != api.OK {
		t.Error(l, e)
	}
	if w, e := mealy.Apart(sample.ParseMealy("1/0.0/1 0/0.1/0"), 0, 1); !slices.Equal(w, []int{1}) || e != api.OK {
		t.Error(w, e)
	}
	if o, s, e := mealy.Run(sample.ParseMealy("1/0.0/1 0/0.1/0"), 0, []int{1, 0, 1}); !slices.Equal(o, []int{1, 0, 0}) || s != 1 || e != api.OK {
		t.Error(o, s, e)
	}
}
