package euler_test

import (
	"slices"
	"testing"

	"mizmaze/api"
	"mizmaze/auto"
	"mizmaze/euler"
	"mizmaze/reset"
	"mizmaze/sample"
	"mizmaze/sets"
	"mizmaze/short"
)

// firstExtension tries all words of up to most letters in order, shorter ones first.
func firstExtension(a api.Auto, set []int, most int) ([]int, bool) {
	var try func(word []int, length int) ([]int, bool)
	try = func(word []int, length int) ([]int, bool) {
		if length == 0 {
			preimage, _ := auto.Preimage(a, set, word)
			return word, len(preimage) > len(set)
		}
		for x := range a.Next[0] {
			if found, ok := try(append(slices.Clone(word), x), length-1); ok {
				return found, true
			}
		}
		return nil, false
	}
	for length := range most + 1 {
		if word, ok := try(nil, length); ok {
			return word, true
		}
	}
	return nil, false
}

func TestForm(t *testing.T) {
	for _, a := range sample.InvalidAutos() {
		if ok, e := euler.Eulerian(a); ok || e != api.ErrForm {
			t.Error("Eulerian", a, e)
		}
		if x, e := euler.Circular(a); x != 0 || e != api.ErrForm {
			t.Error("Circular", a, e)
		}
		if w, e := euler.Extend(a, []int{-1}); w != nil || e != api.ErrForm {
			t.Error("Extend", a, e)
		}
		if b, e := euler.Bound(a); b != 0 || e != api.ErrForm {
			t.Error("Bound", a, e)
		}
	}
}

func TestEulerian(t *testing.T) {
	for a := range sample.SmallAutos() {
		want := true
		for s := range a.Next {
			times := 0
			for _, row := range a.Next {
				for _, q := range row {
					if q == s {
						times++
					}
				}
			}
			want = want && times == len(a.Next[0])
		}
		if ok, e := euler.Eulerian(a); ok != want || e != api.OK {
			t.Fatal(a, ok, e)
		}
	}
	if ok, e := euler.Eulerian(sample.Eulerian(sample.Numbers(3), 60, 6)); !ok || e != api.OK {
		t.Error(ok, e)
	}
}

func TestCircular(t *testing.T) {
	for a := range sample.SmallAutos() {
		want := -1
		for x := range slices.Backward(a.Next[0]) {
			// In a cycle through all n states, and in nothing else, the first power that leads back to a state is the n-th, for all states.
			cycle := true
			for s := range a.Next {
				for i := 1; i <= len(a.Next); i++ {
					end, _ := auto.Run(a, s, slices.Repeat([]int{x}, i))
					cycle = cycle && (end == s) == (i == len(a.Next))
				}
			}
			if cycle {
				want = x
			}
		}
		x, e := euler.Circular(a)
		if want >= 0 && (x != want || e != api.OK) || want < 0 && (x != 0 || e != api.ErrNone) {
			t.Fatal(a, x, want, e)
		}
	}
}

func TestExtend(t *testing.T) {
	for a := range sample.SmallAutos() {
		if len(a.Next) > 5 {
			continue
		}
		for bits := range 1 << len(a.Next) {
			set := sets.Set(bits).List()
			word, e := euler.Extend(a, set)
			if e == api.OK && len(word) <= 6 {
				if want, ok := firstExtension(a, set, len(word)); !ok || !slices.Equal(word, want) {
					t.Fatal(a, set, word, want)
				}
			} else if _, ok := firstExtension(a, set, 4); ok || e == api.ErrNone && word != nil {
				t.Fatal(a, set, word, e)
			}
		}
	}
}

func TestExtendErrors(t *testing.T) {
	a := sample.ParseAuto("1.0 0.1")
	for _, set := range [][]int{{2}, {-1}, {1, 0}, {0, 0}} {
		if w, e := euler.Extend(a, set); w != nil || e != api.ErrArg {
			t.Error(set, w, e)
		}
	}
	big := sample.Auto(sample.Numbers(4), 13, 2)
	if w, e := euler.Extend(big, []int{13}); w != nil || e != api.ErrArg {
		t.Error(w, e)
	}
	if w, e := euler.Extend(big, []int{0}); w != nil || e != api.ErrSize {
		t.Error(w, e)
	}
	for _, set := range [][]int{nil, {0}, {0, 1}} { // letters that permute extend nothing
		if w, e := euler.Extend(a, set); w != nil || e != api.ErrNone {
			t.Error(set, w, e)
		}
	}
	if w, e := euler.Extend(sample.Auto(sample.Numbers(4), 12, 6), []int{0, 5}); len(w) == 0 || e != api.OK {
		t.Error(w, e)
	}
}

func TestKari(t *testing.T) { // P6.1
	next := sample.Numbers(5)
	found := 0
	for range 500 {
		a := sample.Eulerian(next, 2+next(6), 2+next(2))
		if apart, _ := reset.Apart(a); len(apart) > 0 {
			continue
		}
		found++
		n := len(a.Next)
		for bits := 1; bits < 1<<n-1; bits++ {
			if word, e := euler.Extend(a, sets.Set(bits).List()); e != api.OK || len(word) > n-1 {
				t.Fatal(a, bits, word, e)
			}
		}
	}
	if found < 100 {
		t.Error(found)
	}
}

func TestBound(t *testing.T) { // P6.2
	for a := range sample.SmallAutos() {
		bound, e := euler.Bound(a)
		word, se := short.Shortest(a)
		if se == api.ErrNone {
			if bound != 0 || e != api.ErrNone {
				t.Fatal(a, bound, e)
			}
			continue
		}
		n := len(a.Next)
		want := (n*n*n - n) / 6
		if _, e := euler.Circular(a); e == api.OK {
			want = (n - 1) * (n - 1)
		}
		if ok, _ := euler.Eulerian(a); ok {
			want = n*n - 3*n + 3
		}
		if bound != want || e != api.OK || len(word) > bound {
			t.Fatal(a, bound, want, e, word)
		}
	}
	for n := 2; n <= api.MaxSmall; n++ {
		a, _ := short.Cerny(n)
		if b, e := euler.Bound(a); b != (n-1)*(n-1) || e != api.OK {
			t.Error(n, b, e)
		}
	}
}

func TestAverage(t *testing.T) { // P6.3
	for a := range sample.SmallAutos() {
		ok, _ := euler.Eulerian(a)
		exact := true
		for bits := range 1 << len(a.Next) {
			set := sets.Set(bits).List()
			sum := 0
			for x := range a.Next[0] {
				preimage, _ := auto.Preimage(a, set, []int{x})
				sum += len(preimage)
			}
			exact = exact && sum == len(a.Next[0])*len(set)
		}
		if ok != exact {
			t.Fatal(a, ok, exact)
		}
	}
}

func TestExamples(t *testing.T) {
	a := sample.ParseAuto("1.0 2.1 0.2")
	if ok, e := euler.Eulerian(a); !ok || e != api.OK {
		t.Error(ok, e)
	}
	if x, e := euler.Circular(a); x != 0 || e != api.OK {
		t.Error(x, e)
	}
	if b, e := euler.Bound(a); b != 0 || e != api.ErrNone {
		t.Error(b, e)
	}
	a = sample.ParseAuto("0.1 0.2 1.2")
	if ok, e := euler.Eulerian(a); !ok || e != api.OK {
		t.Error(ok, e)
	}
	if w, e := short.Shortest(a); !slices.Equal(w, []int{0, 0}) || e != api.OK {
		t.Error(w, e)
	}
	if b, e := euler.Bound(a); b != 3 || e != api.OK {
		t.Error(b, e)
	}
	a, _ = short.Cerny(3)
	if x, e := euler.Circular(a); x != 0 || e != api.OK {
		t.Error(x, e)
	}
	if b, e := euler.Bound(a); b != 4 || e != api.OK {
		t.Error(b, e)
	}
	if b, e := euler.Bound(sample.ParseAuto("0")); b != 1 || e != api.OK {
		t.Error(b, e)
	}
	if x, e := euler.Circular(sample.ParseAuto("0.0")); x != 0 || e != api.OK {
		t.Error(x, e)
	}
}
