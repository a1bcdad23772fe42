package color_test

import (
	"reflect"
	"slices"
	"testing"

	"mizmaze/api"
	"mizmaze/auto"
	"mizmaze/color"
	"mizmaze/net"
	"mizmaze/sample"
	"mizmaze/sets"
)

// anyPeriod returns an automaton whose letters lead from class to class, of so many classes.
func anyPeriod(next func(int) int, classes, letters int) api.Auto {
	each := 1 + next(3)
	a := api.Auto{Next: make([][]int, classes*each)}
	for s := range a.Next {
		for range letters {
			a.Next[s] = append(a.Next[s], (s+1)%classes+classes*next(each))
		}
	}
	return a
}

// autos returns small automata of all kinds, and some of greater periods.
func autos() []api.Auto {
	list := slices.Collect(sample.SmallAutos())
	next := sample.Numbers(3)
	for range 300 {
		list = append(list, anyPeriod(next, 1+next(4), 1+next(3)))
	}
	return list
}

func anyPerms(next func(int) int, states, letters int) [][]int {
	perms := make([][]int, states)
	for s := range perms {
		perms[s] = sample.Order(next, letters)
	}
	return perms
}

// colourings calls try with all colourings, some of them many times.
func colourings(a api.Auto, try func(b api.Auto)) {
	b := api.Auto{Next: make([][]int, len(a.Next))}
	var from func(s int)
	from = func(s int) {
		if s == len(a.Next) {
			try(b)
			return
		}
		var fill func(row, left []int)
		fill = func(row, left []int) {
			if len(left) == 0 {
				b.Next[s] = row
				from(s + 1)
			}
			for i, q := range left {
				fill(append(slices.Clone(row), q), slices.Delete(slices.Clone(left), i, i+1))
			}
		}
		fill(nil, a.Next[s])
	}
	from(0)
}

func checkRoad(t *testing.T, a api.Auto) {
	t.Helper()
	b, word, e := color.Road(a)
	if e != api.OK {
		t.Fatal(a, e)
	}
	if same, e := color.Same(a, b); !same || e != api.OK {
		t.Fatal(a, b, e)
	}
	n := len(a.Next)
	image, e := auto.Image(b, sets.Below(n).List(), word)
	if len(image) != 1 || e != api.OK || len(word) > (n*n*n-n)/6 {
		t.Fatal(a, b, word, image, e)
	}
}

func TestForm(t *testing.T) {
	good := api.Auto{Next: [][]int{{0}}}
	for _, a := range sample.InvalidAutos() {
		if b, e := color.Colored(a, nil); b.Next != nil || e != api.ErrForm {
			t.Error("Colored", a, e)
		}
		if ok, e := color.Same(a, good); ok || e != api.ErrForm {
			t.Error("Same", a, e)
		}
		if ok, e := color.Same(good, a); ok || e != api.ErrForm {
			t.Error("Same", a, e)
		}
		if c, e := color.Colorings(a); c != 0 || e != api.ErrForm {
			t.Error("Colorings", a, e)
		}
		if b, w, e := color.Road(a); b.Next != nil || w != nil || e != api.ErrForm {
			t.Error("Road", a, e)
		}
	}
}

func TestColored(t *testing.T) {
	next := sample.Numbers(4)
	for _, a := range autos() {
		perms := anyPerms(next, len(a.Next), len(a.Next[0]))
		b, e := color.Colored(a, perms)
		if e != api.OK {
			t.Fatal(a, perms, e)
		}
		for s, row := range perms {
			for x, y := range row {
				if b.Next[s][x] != a.Next[s][y] {
					t.Fatal(a, perms, b)
				}
			}
		}
	}
	a := sample.ParseAuto("1.0 0.1")
	for _, perms := range [][][]int{nil, {{0, 1}}, {{0, 1}, {0}}, {{0, 1}, {0, 0}}, {{0, 1}, {0, 2}}, {{-1, 0}, {0, 1}}, {{0, 1}, {0, 1, 1}}, {{0, 1}, {0, 1}, {0, 1}}} {
		if b, e := color.Colored(a, perms); b.Next != nil || e != api.ErrArg {
			t.Error(perms, b, e)
		}
	}
}

func TestSame(t *testing.T) { // P5.3
	for a := range sample.AllAutos(2, 2) {
		for b := range sample.AllAutos(2, 2) {
			want := false
			colourings(a, func(c api.Auto) { want = want || reflect.DeepEqual(b, c) })
			if same, e := color.Same(a, b); same != want || e != api.OK {
				t.Fatal(a, b, same, e)
			}
		}
	}
	next := sample.Numbers(5)
	for _, a := range autos() {
		b, _ := color.Colored(a, anyPerms(next, len(a.Next), len(a.Next[0])))
		c, _ := color.Colored(b, anyPerms(next, len(a.Next), len(a.Next[0])))
		for _, pair := range [][2]api.Auto{{a, a}, {a, b}, {b, a}, {a, c}, {c, a}} {
			if same, e := color.Same(pair[0], pair[1]); !same || e != api.OK {
				t.Fatal(pair)
			}
		}
		d := api.Auto{Next: append(slices.Clone(c.Next), c.Next[0])}
		if same, e := color.Same(a, d); same || e != api.OK {
			t.Fatal(a, d)
		}
	}
	for _, pair := range [][2]string{{"0", "0.0"}, {"0.0 1.1", "0.1 0.1"}, {"0.0.1 0.0.0", "0.1.1 0.0.0"}, {"0", "0 1"}} {
		if same, e := color.Same(sample.ParseAuto(pair[0]), sample.ParseAuto(pair[1])); same || e != api.OK {
			t.Error(pair)
		}
	}
}

func TestAlike(t *testing.T) { // P5.3
	for _, a := range autos() {
		b, _ := color.Colored(a, anyPerms(sample.Numbers(6), len(a.Next), len(a.Next[0])))
		connected, _ := net.Connected(a)
		period, e := net.Period(a)
		if c, _ := net.Connected(b); c != connected {
			t.Fatal(a, b)
		}
		if p, f := net.Period(b); p != period || f != e {
			t.Fatal(a, b, period, p)
		}
	}
}

func TestColorings(t *testing.T) {
	for _, a := range autos() {
		if len(a.Next) > 4 {
			continue
		}
		seen := map[string]bool{}
		colourings(a, func(b api.Auto) {
			s, _ := auto.Text(b)
			seen[s] = true
		})
		if count, e := color.Colorings(a); count != len(seen) || e != api.OK {
			t.Fatal(a, count, len(seen), e)
		}
	}
}

func TestManyColorings(t *testing.T) {
	two := func(states int) api.Auto {
		var a api.Auto
		for s := range states {
			a.Next = append(a.Next, []int{s, (s + 1) % states})
		}
		return a
	}
	if count, e := color.Colorings(two(60)); count != api.MaxCount || e != api.OK {
		t.Error(count, e)
	}
	more := two(60)
	for s := range more.Next {
		more.Next[s] = append(more.Next[s], s)
	}
	if count, e := color.Colorings(more); count != 0 || e != api.ErrSize {
		t.Error(count, e)
	}
	one := api.Auto{}
	for s := range 60 {
		one.Next = append(one.Next, []int{s, s, s, s, s, s})
	}
	if count, e := color.Colorings(one); count != 1 || e != api.OK {
		t.Error(count, e)
	}
	one.Next[3] = []int{0, 1, 2, 3, 4, 5}
	one.Next[4] = []int{0, 0, 2, 3, 3, 3}
	if count, e := color.Colorings(one); count != 720*60 || e != api.OK {
		t.Error(count, e)
	}
}

func TestRoad(t *testing.T) { // P5.1
	roads := 0
	for _, a := range autos() {
		period, e := net.Period(a)
		switch {
		case period == 1:
			roads++
			checkRoad(t, a)
		case e == api.OK:
			if b, w, e := color.Road(a); b.Next != nil || w != nil || e != api.ErrNone {
				t.Fatal(a, e)
			}
		default:
			if b, w, e := color.Road(a); b.Next != nil || w != nil || e != api.ErrArg {
				t.Fatal(a, e)
			}
		}
	}
	if roads < 100 {
		t.Error(roads)
	}
}

func TestPeriods(t *testing.T) { // P5.2
	next := sample.Numbers(7)
	for _, a := range autos() {
		period, e := net.Period(a)
		if e != api.OK {
			continue
		}
		b, _ := color.Colored(a, anyPerms(next, len(a.Next), len(a.Next[0])))
		word := make([]int, 50)
		for i := range word {
			word[i] = next(len(a.Next[0]))
		}
		if image, _ := auto.Image(b, sets.Below(len(a.Next)).List(), word); len(image) < period {
			t.Fatal(b, word, period)
		}
	}
}

// Networks with a plan, whose first numbering has no reset word: its letters permute the states, or classes of them.
func TestRegularRoads(t *testing.T) {
	for _, n := range []int{2, 3, 5, 12, 19, 20, 59, 60} {
		for _, steps := range [][]int{{1, 2}, {0, 1}, {1, 3, 6}, {0, 2, 4, 6, 1, 3}, {0, 0, 0, 0, 2, 3}} {
			var a api.Auto
			for s := range n {
				var row []int
				for _, step := range steps {
					row = append(row, (s+step)%n)
				}
				a.Next = append(a.Next, row)
			}
			if period, _ := net.Period(a); period == 1 {
				checkRoad(t, a)
			}
		}
	}
}

// Wielandt's networks: a circle with one short cut.
func TestShortCut(t *testing.T) {
	for n := 2; n <= 60; n++ {
		var a api.Auto
		for s := range n {
			a.Next = append(a.Next, []int{(s + 1) % n, (s + 1) % n})
		}
		a.Next[n-1][1] = 1 % n
		checkRoad(t, a)
	}
}

// Doubling the number of a state and adding one leads through a network whose numberings are many.
func TestDoubling(t *testing.T) {
	for _, n := range []int{2, 8, 16, 32, 57, 60} {
		var a api.Auto
		for s := range n {
			a.Next = append(a.Next, []int{2 * s % n, (2*s + 1) % n})
		}
		checkRoad(t, a)
	}
}

func TestLargeRoads(t *testing.T) {
	next := sample.Numbers(8)
	for range 10 {
		a := sample.Auto(next, 60, 2+next(5))
		for s := range a.Next {
			a.Next[s][0] = (s + 1) % 60
		}
		if period, _ := net.Period(a); period == 1 {
			checkRoad(t, a)
		}
	}
}

func TestMemory(t *testing.T) {
	a := sample.ParseAuto("1.0 0.1")
	perms := [][]int{{0, 1}, {0, 1}}
	b, _ := color.Colored(a, perms)
	c, _, _ := color.Road(sample.ParseAuto("0"))
	d := sample.ParseAuto("1.0 0.0")
	r, _, _ := color.Road(d)
	b.Next[0][0], c.Next[0][0], r.Next[0][0] = 9, 9, 9
	if s, _ := auto.Text(a); s != "1.0 0.1" || !reflect.DeepEqual(perms, [][]int{{0, 1}, {0, 1}}) {
		t.Error(s, perms)
	}
	if s, _ := auto.Text(d); s != "1.0 0.0" {
		t.Error(s)
	}
}

func TestExamples(t *testing.T) {
	a := sample.ParseAuto("1.1 2.2 0.0")
	if c, e := color.Colorings(a); c != 1 || e != api.OK {
		t.Error(c, e)
	}
	if _, _, e := color.Road(a); e != api.ErrNone {
		t.Error(e)
	}
	a = sample.ParseAuto("1.2 2.2 0.0")
	if c, e := color.Colorings(a); c != 2 || e != api.OK {
		t.Error(c, e)
	}
	checkRoad(t, a)
	if same, e := color.Same(sample.ParseAuto("1.0 0.1"), sample.ParseAuto("1.0 1.0")); !same || e != api.OK {
		t.Error(same, e)
	}
	checkRoad(t, sample.ParseAuto("1.0 0.1"))
	checkRoad(t, sample.ParseAuto("0"))
}
