package auto_test

import (
	"reflect"
	"slices"
	"strings"
	"testing"

	"mizmaze/api"
	"mizmaze/auto"
	"mizmaze/sample"
	"mizmaze/sets"
)

func anySet(next func(int) int, states int) []int {
	var set []int
	for s := range states {
		if next(2) == 0 {
			set = append(set, s)
		}
	}
	return set
}

// autos calls try with automata of all sizes that matter.
func autos(try func(a api.Auto, next func(int) int)) {
	next := sample.Numbers(1)
	for i := range 200 {
		try(sample.Auto(next, 1+next(9), 1+next(6)), next)
		if i%20 == 0 {
			try(sample.Auto(next, 60, 6), next)
		}
	}
	try(sample.Auto(next, 1, 1), next)
}

func clone(a api.Auto) api.Auto {
	var b api.Auto
	for _, row := range a.Next {
		b.Next = append(b.Next, slices.Clone(row))
	}
	return b
}

func TestValid(t *testing.T) {
	next := sample.Numbers(2)
	for _, a := range []api.Auto{
		{Next: [][]int{{0}}},
		sample.Auto(next, 60, 6),
		{Next: [][]int{{1, 0}, {0, 0}}},
	} {
		if !auto.Valid(a) {
			t.Error("not valid:", a)
		}
	}
	for _, a := range sample.InvalidAutos() {
		if auto.Valid(a) {
			t.Error("valid:", a)
		}
	}
}

// Every function refuses an automaton that is not valid before it looks at anything else.
func TestForm(t *testing.T) {
	for _, a := range sample.InvalidAutos() {
		if s, e := auto.Run(a, -1, []int{-1}); s != 0 || e != api.ErrForm {
			t.Error("Run", a, e)
		}
		if l, e := auto.Image(a, []int{-1}, nil); len(l) != 0 || e != api.ErrForm {
			t.Error("Image", a, e)
		}
		if l, e := auto.Preimage(a, []int{-1}, nil); len(l) != 0 || e != api.ErrForm {
			t.Error("Preimage", a, e)
		}
		if b, e := auto.Renamed(a, nil); b.Next != nil || e != api.ErrForm {
			t.Error("Renamed", a, e)
		}
		if b, e := auto.Power(a, nil); b.Next != nil || e != api.ErrForm {
			t.Error("Power", a, e)
		}
		if s, e := auto.Text(a); s != "" || e != api.ErrForm {
			t.Error("Text", a, e)
		}
	}
}

func TestArguments(t *testing.T) {
	a := api.Auto{Next: [][]int{{1, 0}, {0, 0}}}
	for _, s := range []int{-1, 2} {
		if r, e := auto.Run(a, s, nil); r != 0 || e != api.ErrArg {
			t.Error(s, e)
		}
	}
	for _, word := range [][]int{{2}, {-1}, {0, 1, 2}, make([]int, api.MaxWord+1)} {
		if _, e := auto.Run(a, 0, word); e != api.ErrArg {
			t.Error("Run", e)
		}
		if _, e := auto.Image(a, nil, word); e != api.ErrArg {
			t.Error("Image", e)
		}
		if _, e := auto.Preimage(a, nil, word); e != api.ErrArg {
			t.Error("Preimage", e)
		}
		if _, e := auto.Power(a, [][]int{{0}, word}); e != api.ErrArg {
			t.Error("Power", e)
		}
	}
	for _, set := range [][]int{{2}, {-1, 0}, {0, 0}, {1, 0}, {0, 1, 1}} {
		if l, e := auto.Image(a, set, nil); len(l) != 0 || e != api.ErrArg {
			t.Error(set, e)
		}
		if l, e := auto.Preimage(a, set, nil); len(l) != 0 || e != api.ErrArg {
			t.Error(set, e)
		}
	}
	for _, names := range [][]int{nil, {0}, {0, 0}, {1, 2}, {-1, 0}, {0, 1, 1}, {0, 1, 2}} {
		if b, e := auto.Renamed(a, names); b.Next != nil || e != api.ErrArg {
			t.Error(names, e)
		}
	}
	for _, words := range [][][]int{nil, {{}, {}, {}, {}, {}, {}, {}}} {
		if b, e := auto.Power(a, words); b.Next != nil || e != api.ErrArg {
			t.Error(words, e)
		}
	}
}

func TestLongestWord(t *testing.T) {
	a := sample.Auto(sample.Numbers(4), 60, 6)
	word := sample.Word(sample.Numbers(5), 6, api.MaxWord)
	all := sets.Below(60).List()
	want := 17
	for _, x := range word {
		want = a.Next[want][x]
	}
	if s, e := auto.Run(a, 17, word); s != want || e != api.OK {
		t.Error(s, e)
	}
	if l, e := auto.Image(a, all, word); !slices.Contains(l, want) || e != api.OK {
		t.Error(l, e)
	}
	if l, e := auto.Preimage(a, []int{want}, word); !slices.Contains(l, 17) || e != api.OK {
		t.Error(l, e)
	}
	if b, e := auto.Power(a, [][]int{word, word, word, word, word, word}); b.Next[17][5] != want || e != api.OK {
		t.Error(e)
	}
}

func TestParts(t *testing.T) { // P1.1
	autos(func(a api.Auto, next func(int) int) {
		letters := len(a.Next[0])
		u, v := sample.Word(next, letters, next(5)), sample.Word(next, letters, next(5))
		for s := range a.Next {
			middle, _ := auto.Run(a, s, u)
			end, _ := auto.Run(a, middle, v)
			if whole, e := auto.Run(a, s, slices.Concat(u, v)); whole != end || e != api.OK {
				t.Fatal(a, s, u, v, whole, end)
			}
		}
	})
}

func TestSets(t *testing.T) { // P1.2
	autos(func(a api.Auto, next func(int) int) {
		n := len(a.Next)
		x, y := anySet(next, n), anySet(next, n)
		word := sample.Word(next, len(a.Next[0]), next(5))
		ix, ex := auto.Image(a, x, word)
		iy, _ := auto.Image(a, y, word)
		both, _ := auto.Image(a, (sets.Of(x) | sets.Of(y)).List(), word)
		if ex != api.OK || !slices.Equal(both, (sets.Of(ix)|sets.Of(iy)).List()) {
			t.Fatal("union", a, x, y, word)
		}
		px, e := auto.Preimage(a, x, word)
		rest, _ := auto.Preimage(a, (sets.Below(n) &^ sets.Of(x)).List(), word)
		if e != api.OK || !slices.Equal(rest, (sets.Below(n)&^sets.Of(px)).List()) {
			t.Fatal("complement", a, x, word)
		}
		for s := range n {
			end, _ := auto.Run(a, s, word)
			if slices.Contains(px, s) != slices.Contains(x, end) {
				t.Fatal("preimage", a, x, word, s)
			}
			if slices.Contains(x, s) && !slices.Contains(ix, end) {
				t.Fatal("image", a, x, word, s)
			}
		}
		if len(ix) > len(x) || !slices.IsSorted(ix) || !slices.IsSorted(px) {
			t.Fatal("image", a, x, word)
		}
	})
}

func TestRenamed(t *testing.T) { // P1.3
	autos(func(a api.Auto, next func(int) int) {
		names := make([]int, len(a.Next))
		for s := range names {
			other := next(s + 1)
			names[s] = names[other]
			names[other] = s
		}
		b, e := auto.Renamed(a, names)
		if e != api.OK || !auto.Valid(b) {
			t.Fatal(a, names, e)
		}
		word := sample.Word(next, len(a.Next[0]), next(6))
		for s := range a.Next {
			old, _ := auto.Run(a, s, word)
			if r, _ := auto.Run(b, names[s], word); r != names[old] {
				t.Fatal(a, names, s, word)
			}
		}
	})
}

func TestPower(t *testing.T) { // P1.4
	autos(func(a api.Auto, next func(int) int) {
		words := make([][]int, 1+next(api.MaxLetters))
		for i := range words {
			words[i] = sample.Word(next, len(a.Next[0]), next(4))
		}
		b, e := auto.Power(a, words)
		if e != api.OK || !auto.Valid(b) || len(b.Next[0]) != len(words) {
			t.Fatal(a, words, e)
		}
		word := sample.Word(next, len(words), next(4))
		var whole []int
		for _, i := range word {
			whole = append(whole, words[i]...)
		}
		for s := range a.Next {
			want, _ := auto.Run(a, s, whole)
			if r, _ := auto.Run(b, s, word); r != want {
				t.Fatal(a, words, s, word)
			}
		}
	})
}

func TestStrings(t *testing.T) { // P1.5
	autos(func(a api.Auto, next func(int) int) {
		s, e := auto.Text(a)
		if e != api.OK {
			t.Fatal(a, e)
		}
		if b, e := auto.Parse(s); e != api.OK || !reflect.DeepEqual(a, b) {
			t.Fatal(s, b, e)
		}
		i := next(len(s))
		changed := s[:i] + string("0123456789. -+x"[next(15)]) + s[i+1:]
		b, e := auto.Parse(changed)
		if again, _ := auto.Text(b); e == api.OK && again != changed || e != api.OK && (e != api.ErrParse || b.Next != nil) {
			t.Fatal(changed, b, e)
		}
	})
	if s, e := auto.Text(api.Auto{Next: [][]int{{1, 0}, {0, 0}}}); s != "1.0 0.0" || e != api.OK {
		t.Error(s, e)
	}
}

func TestParseRefuses(t *testing.T) {
	for _, s := range []string{
		"", " ", ".", "0 ", " 0", "0.", ".0", "0..0", "1", "-0", "+0", "00", "01.0 0.0", "1.0  0.0", "1.0 0", "1.0\t0.0",
		"0,0", "0.0.0.0.0.0.0", "2.0 0.0", "0.-1", "0x0", "0.0\n", "99999999999999999999", "\u0660",
		strings.Repeat("0 ", 60) + "0", strings.Repeat("0 ", 100000),
	} {
		if a, e := auto.Parse(s); e != api.ErrParse || a.Next != nil {
			t.Errorf("%q: %v %d", s, a, e)
		}
	}
	longest := strings.TrimSuffix(strings.Repeat("59.59.59.59.59.59 ", 60), " ")
	if a, e := auto.Parse(longest); e != api.OK || len(a.Next) != 60 {
		t.Error(e)
	}
}

// Arguments stay as they are, and results share no memory with them (R5).
func TestMemory(t *testing.T) {
	a := api.Auto{Next: [][]int{{1, 0}, {0, 1}}}
	before := clone(a)
	set, word, names := []int{0, 1}, []int{0}, []int{1, 0}
	image, _ := auto.Image(a, set, nil)
	preimage, _ := auto.Preimage(a, set, nil)
	renamed, _ := auto.Renamed(a, []int{0, 1})
	power, _ := auto.Power(a, [][]int{{0}, {1}})
	auto.Renamed(a, names)
	auto.Power(a, [][]int{word, word})
	image[0], preimage[0], renamed.Next[0][0], power.Next[0][0] = 9, 9, 9, 9
	if !reflect.DeepEqual(a, before) || !slices.Equal(set, []int{0, 1}) || word[0] != 0 || names[0] != 1 {
		t.Error(a, set, word, names)
	}
	row := append(power.Next[0], 7)
	if row[2] != 7 || power.Next[1][0] != 0 {
		t.Error("rows share memory")
	}
}

func TestNothing(t *testing.T) { // empty sets and words, nil or not (R4)
	a := api.Auto{Next: [][]int{{0}}}
	for _, empty := range [][]int{nil, {}} {
		if l, e := auto.Image(a, empty, empty); len(l) != 0 || e != api.OK {
			t.Error(l, e)
		}
		if l, e := auto.Preimage(a, empty, empty); len(l) != 0 || e != api.OK {
			t.Error(l, e)
		}
		if s, e := auto.Run(a, 0, empty); s != 0 || e != api.OK {
			t.Error(s, e)
		}
	}
}
