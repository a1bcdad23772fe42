package proof_test

import (
	"math"
	"reflect"
	"slices"
	"strconv"
	"strings"
	"testing"

	"mizmaze/api"
	"mizmaze/color"
	"mizmaze/home"
	"mizmaze/maze"
	"mizmaze/mealy"
	"mizmaze/net"
	"mizmaze/proof"
	"mizmaze/reset"
	"mizmaze/sample"
)

// proofs returns a claim of each kind that is proved.
func proofs() []api.Claim {
	wayHome := sample.ParseMealy("1/0.0/1 0/0.1/0")
	return []api.Claim{
		{Kind: api.ClaimReset, Auto: sample.ParseAuto("1.0 2.1 0.0"), Word: []int{1, 0, 0, 1}},
		{Kind: api.ClaimNone, Auto: sample.ParseAuto("1.1 0.0"), Pairs: [][2]int{{0, 1}}},
		{Kind: api.ClaimRoad, Auto: sample.ParseAuto("1.0 0.1"), Other: sample.ParseAuto("1.0 1.0"), Word: []int{1}},
		{Kind: api.ClaimPeriod, Auto: sample.ParseAuto("1.1 2.2 0.0"), Number: 3, Classes: []int{1, 2, 0}},
		{Kind: api.ClaimHome, Mealy: wayHome, Word: []int{1}},
		{Kind: api.ClaimAlike, Mealy: sample.ParseMealy("1/0.0/1 0/0.1/1"), Classes: []int{-7, -7}},
		{Kind: api.ClaimApart, Mealy: wayHome, Word: []int{0, 1}, Pairs: [][2]int{{1, 0}}},
		{Kind: api.ClaimMaze, Number: 2, Doors: 2, Word: []int{0, 1}},
	}
}

// anyClaim returns some plain claim, which need not make sense.
func anyClaim(next func(int) int) api.Claim {
	number := func() int {
		return []int{next(12) - 2, next(1000), -next(1000000), math.MaxInt, math.MinInt}[next(40)/9]
	}
	row := func() []int {
		var list []int
		for range next(5) {
			list = append(list, number())
		}
		return list
	}
	table := func() [][]int {
		var list [][]int
		for range next(4) {
			list = append(list, row())
		}
		return list
	}
	var pairs [][2]int
	for range next(4) {
		pairs = append(pairs, [2]int{number(), number()})
	}
	switch kind := next(api.ClaimKinds); kind {
	case api.ClaimReset:
		return api.Claim{Kind: kind, Auto: api.Auto{Next: table()}, Word: row()}
	case api.ClaimNone:
		return api.Claim{Kind: kind, Auto: api.Auto{Next: table()}, Pairs: pairs}
	case api.ClaimRoad:
		return api.Claim{Kind: kind, Auto: api.Auto{Next: table()}, Other: api.Auto{Next: table()}, Word: row()}
	case api.ClaimPeriod:
		return api.Claim{Kind: kind, Auto: api.Auto{Next: table()}, Number: number(), Classes: row()}
	case api.ClaimHome:
		return api.Claim{Kind: kind, Mealy: api.Mealy{Next: table(), Out: table()}, Word: row()}
	case api.ClaimAlike:
		return api.Claim{Kind: kind, Mealy: api.Mealy{Next: table(), Out: table()}, Classes: row()}
	case api.ClaimApart:
		return api.Claim{Kind: kind, Mealy: api.Mealy{Next: table(), Out: table()}, Word: row(), Pairs: pairs}
	default:
		return api.Claim{Kind: api.ClaimMaze, Number: number(), Doors: number(), Word: row()}
	}
}

func isProved(c api.Claim) bool {
	ok, e := proof.Check(c)
	return ok && e == api.OK
}

func TestProofs(t *testing.T) {
	for kind, c := range proofs() {
		if ok, e := proof.Check(c); !ok || e != api.OK || c.Kind != kind {
			t.Error(c, ok, e)
		}
	}
}

func TestPlain(t *testing.T) {
	uses := []string{"Auto Word", "Auto Pairs", "Auto Other Word", "Auto Number Classes", "Mealy Word", "Mealy Classes", "Mealy Word Pairs", "Number Doors Word"}
	some := map[string]any{
		"Auto": sample.ParseAuto("0"), "Other": sample.ParseAuto("0"), "Mealy": api.Mealy{Out: [][]int{{0}}}, "Number": -1, "Doors": 1,
		"Word": []int{0}, "Classes": []int{0}, "Pairs": [][2]int{{0, 0}},
	}
	for kind, c := range proofs() {
		for name, value := range some {
			changed := c
			reflect.ValueOf(&changed).Elem().FieldByName(name).Set(reflect.ValueOf(value))
			want := api.ErrForm
			if slices.Contains(strings.Split(uses[kind], " "), name) {
				want = api.OK
			}
			if ok, e := proof.Check(changed); e != want || e != api.OK && ok {
				t.Error("Check", kind, name, ok, e)
			}
			if s, e := proof.Text(changed); e != want || e != api.OK && s != "" {
				t.Error("Text", kind, name, s, e)
			}
		}
		// Empty slices are as good as nil.
		if c.Kind == api.ClaimReset {
			c.Other, c.Mealy, c.Classes, c.Pairs = api.Auto{Next: [][]int{}}, api.Mealy{Next: [][]int{}, Out: [][]int{}}, []int{}, [][2]int{}
			if ok, e := proof.Check(c); !ok || e != api.OK {
				t.Error(ok, e)
			}
		}
	}
	for _, kind := range []int{-1, api.ClaimKinds, math.MinInt} {
		if ok, e := proof.Check(api.Claim{Kind: kind}); ok || e != api.ErrForm {
			t.Error("Check", kind, e)
		}
		if s, e := proof.Text(api.Claim{Kind: kind}); s != "" || e != api.ErrForm {
			t.Error("Text", kind, e)
		}
	}
}

func TestNotProved(t *testing.T) {
	a, m := sample.ParseAuto("1.0 0.0"), sample.ParseMealy("1/0.0/1 0/0.1/0")
	alike := sample.ParseMealy("1/0.0/1 0/0.1/1")
	apart, around := sample.ParseAuto("1.1 0.0"), sample.ParseAuto("1.1 2.2 0.0")
	var wrong api.Auto
	wrong.Next = [][]int{{2}}
	var wrongMachine api.Mealy
	wrongMachine.Next = [][]int{{0}}
	for i, c := range []api.Claim{
		{Kind: api.ClaimReset},
		{Kind: api.ClaimReset, Auto: wrong},
		{Kind: api.ClaimReset, Auto: a},
		{Kind: api.ClaimReset, Auto: a, Word: []int{0}},
		{Kind: api.ClaimReset, Auto: a, Word: []int{1, 2}},
		{Kind: api.ClaimReset, Auto: a, Word: append(make([]int, api.MaxWord), 1)},
		{Kind: api.ClaimNone},
		{Kind: api.ClaimNone, Auto: wrong, Pairs: [][2]int{{0, 1}}},
		{Kind: api.ClaimNone, Auto: apart},
		{Kind: api.ClaimNone, Auto: apart, Pairs: [][2]int{{1, 0}}},
		{Kind: api.ClaimNone, Auto: apart, Pairs: [][2]int{{0, 0}}},
		{Kind: api.ClaimNone, Auto: apart, Pairs: [][2]int{{0, 0}, {1, 1}}},
		{Kind: api.ClaimNone, Auto: apart, Pairs: [][2]int{{0, 1}, {0, 2}}},
		{Kind: api.ClaimNone, Auto: apart, Pairs: [][2]int{{-1, 0}}},
		{Kind: api.ClaimNone, Auto: a, Pairs: [][2]int{{0, 1}}},
		{Kind: api.ClaimNone, Auto: around, Pairs: [][2]int{{0, 1}, {1, 2}}},
		{Kind: api.ClaimRoad},
		{Kind: api.ClaimRoad, Auto: sample.ParseAuto("1.0 0.1"), Other: sample.ParseAuto("1.0 0.1"), Word: []int{1}},
		{Kind: api.ClaimRoad, Auto: sample.ParseAuto("1.0 0.1"), Other: sample.ParseAuto("1.0 0.0"), Word: []int{1}},
		{Kind: api.ClaimRoad, Auto: wrong, Other: a, Word: []int{1}},
		{Kind: api.ClaimRoad, Auto: a, Other: a, Word: []int{2}},
		{Kind: api.ClaimPeriod},
		{Kind: api.ClaimPeriod, Auto: wrong, Number: 2, Classes: []int{0}},
		{Kind: api.ClaimPeriod, Auto: sample.ParseAuto("0"), Number: 1, Classes: []int{0}},
		{Kind: api.ClaimPeriod, Auto: sample.ParseAuto("0"), Number: 0, Classes: []int{0}},
		{Kind: api.ClaimPeriod, Auto: around, Number: 2, Classes: []int{0, 1, 0}},
		{Kind: api.ClaimPeriod, Auto: around, Number: 3, Classes: []int{0, 2, 1}},
		{Kind: api.ClaimPeriod, Auto: around, Number: 3, Classes: []int{0, 1}},
		{Kind: api.ClaimPeriod, Auto: around, Number: 3, Classes: []int{0, 1, 2, 0}},
		{Kind: api.ClaimPeriod, Auto: around, Number: 3, Classes: []int{3, 1, 2}},
		{Kind: api.ClaimPeriod, Auto: apart, Number: 2, Classes: []int{0, -1}},
		{Kind: api.ClaimPeriod, Auto: sample.ParseAuto("1 2 1"), Number: 2, Classes: []int{2, 1, 0}},
		{Kind: api.ClaimPeriod, Auto: sample.ParseAuto("1 2 1"), Number: 2, Classes: []int{-1, 0, 1}},
		{Kind: api.ClaimPeriod, Auto: apart, Number: 61, Classes: []int{0, 1}},
		{Kind: api.ClaimHome},
		{Kind: api.ClaimHome, Mealy: wrongMachine},
		{Kind: api.ClaimHome, Mealy: m},
		{Kind: api.ClaimHome, Mealy: m, Word: []int{1, 2}},
		{Kind: api.ClaimAlike},
		{Kind: api.ClaimAlike, Mealy: wrongMachine, Classes: []int{0}},
		{Kind: api.ClaimAlike, Mealy: alike, Classes: []int{0}},
		{Kind: api.ClaimAlike, Mealy: alike, Classes: []int{0, 0, 0}},
		{Kind: api.ClaimAlike, Mealy: m, Classes: []int{0, 0}},
		{Kind: api.ClaimAlike, Mealy: sample.ParseMealy("0/0 2/0 2/0"), Classes: []int{0, 0, 1}},
		{Kind: api.ClaimApart, Mealy: m, Word: []int{1}},
		{Kind: api.ClaimApart, Mealy: m, Word: []int{1}, Pairs: [][2]int{{0, 1}, {0, 1}}},
		{Kind: api.ClaimApart, Mealy: m, Word: []int{1}, Pairs: [][2]int{{0, 2}}},
		{Kind: api.ClaimApart, Mealy: m, Word: []int{1}, Pairs: [][2]int{{-1, 0}}},
		{Kind: api.ClaimApart, Mealy: m, Word: []int{1}, Pairs: [][2]int{{1, 1}}},
		{Kind: api.ClaimApart, Mealy: m, Word: []int{0}, Pairs: [][2]int{{0, 1}}},
		{Kind: api.ClaimApart, Mealy: m, Word: []int{1, 2}, Pairs: [][2]int{{0, 1}}},
		{Kind: api.ClaimApart, Mealy: wrongMachine, Word: []int{0}, Pairs: [][2]int{{0, 0}}},
		{Kind: api.ClaimMaze},
		{Kind: api.ClaimMaze, Number: 2, Doors: 2, Word: []int{0}},
		{Kind: api.ClaimMaze, Number: 2, Doors: 2, Word: []int{0, 1, 2}},
		{Kind: api.ClaimMaze, Number: 7, Doors: 2, Word: []int{0, 1}},
		{Kind: api.ClaimMaze, Number: 1, Doors: 1, Word: make([]int, api.MaxWalk+1)},
	} {
		if ok, e := proof.Check(c); ok || e != api.OK {
			t.Error(i, c.Kind, ok, e)
		}
	}
}

func TestProvedToo(t *testing.T) {
	around := sample.ParseAuto("1.1 2.2 0.0")
	circle := api.Claim{Kind: api.ClaimPeriod, Number: api.MaxStates}
	for s := range api.MaxStates {
		circle.Auto.Next = append(circle.Auto.Next, []int{(s + 1) % api.MaxStates})
		circle.Classes = append(circle.Classes, s)
	}
	for i, c := range []api.Claim{
		circle,
		{Kind: api.ClaimReset, Auto: sample.ParseAuto("0")},
		{Kind: api.ClaimReset, Auto: sample.ParseAuto("1.0 0.0"), Word: append(make([]int, api.MaxWord-1), 1)},
		{Kind: api.ClaimNone, Auto: around, Pairs: [][2]int{{1, 2}, {0, 1}, {0, 2}, {1, 2}}},
		{Kind: api.ClaimPeriod, Auto: sample.ParseAuto("1 0"), Number: 2, Classes: []int{1, 0}},
		{Kind: api.ClaimHome, Mealy: sample.ParseMealy("0/0")},
		{Kind: api.ClaimAlike, Mealy: sample.ParseMealy("1/0.0/1 0/0.1/0"), Classes: []int{math.MaxInt, math.MinInt}},
		{Kind: api.ClaimMaze, Number: 1, Doors: 6},
		{Kind: api.ClaimMaze, Number: 12, Doors: 1, Word: []int{0}},
	} {
		if ok, e := proof.Check(c); !ok || e != api.OK {
			t.Error(i, c.Kind, ok, e)
		}
	}
}

func TestNone(t *testing.T) { // P11.1
	next := sample.Numbers(1)
	found := 0
	for a := range sample.SmallAutos() {
		n := len(a.Next)
		apart, _ := reset.Apart(a)
		var pairs [][2]int
		for p := range n {
			for q := p + 1; q < n; q++ {
				if next(3) > 0 && slices.Contains(apart, [2]int{p, q}) || next(20) == 0 {
					pairs = append(pairs, [2]int{p, q})
				}
			}
		}
		if !isProved(api.Claim{Kind: api.ClaimNone, Auto: a, Pairs: pairs}) {
			continue
		}
		found++
		for _, pair := range pairs {
			if _, e := reset.Merge(a, pair[0], pair[1]); e != api.ErrNone {
				t.Fatal(a, pairs)
			}
		}
		if _, e := reset.Reset(a); e != api.ErrNone {
			t.Fatal(a, pairs)
		}
	}
	if found < 50 {
		t.Error(found)
	}
}

func TestPeriod(t *testing.T) { // P11.2
	next := sample.Numbers(2)
	found := 0
	for a := range sample.SmallAutos() {
		n, letters := len(a.Next), len(a.Next[0])
		count := 2 + next(2)
		classes := sample.Word(next, count, n)
		if period, e := net.Period(a); e == api.OK && period > 1 {
			count = period
			classes, _ = net.Classes(a)
		}
		if !isProved(api.Claim{Kind: api.ClaimPeriod, Auto: a, Number: count, Classes: classes}) {
			continue
		}
		found++
		for range 20 {
			perms := make([][]int, n)
			for s := range perms {
				perms[s] = sample.Order(next, letters)
			}
			b, _ := color.Colored(a, perms)
			if _, e := reset.Reset(b); e != api.ErrNone {
				t.Fatal(a, b, count, classes)
			}
		}
	}
	if found < 10 {
		t.Error(found)
	}
}

func TestAlike(t *testing.T) { // P11.3
	next := sample.Numbers(3)
	found := 0
	for m := range sample.SmallMachines() {
		n := len(m.Next)
		own, _ := mealy.Classes(m)
		if !isProved(api.Claim{Kind: api.ClaimAlike, Mealy: m, Classes: own}) {
			t.Fatal(m, own)
		}
		classes := sample.Word(next, 1+next(n), n)
		if !isProved(api.Claim{Kind: api.ClaimAlike, Mealy: m, Classes: classes}) {
			continue
		}
		found++
		for p := range n {
			for q := range n {
				if classes[p] == classes[q] && own[p] != own[q] {
					t.Fatal(m, classes, own)
				}
			}
		}
	}
	if found < 50 {
		t.Error(found)
	}
}

func TestOneSide(t *testing.T) { // P11.4, P11.5
	for a := range sample.SmallAutos() {
		word, _ := reset.Reset(a)
		apart, _ := reset.Apart(a)
		yes := isProved(api.Claim{Kind: api.ClaimReset, Auto: a, Word: word})
		no := isProved(api.Claim{Kind: api.ClaimNone, Auto: a, Pairs: apart})
		if yes == no {
			t.Fatal(a, word, apart)
		}
		b, word, e := color.Road(a)
		period, _ := net.Period(a)
		classes, _ := net.Classes(a)
		road := isProved(api.Claim{Kind: api.ClaimRoad, Auto: a, Other: b, Word: word})
		around := isProved(api.Claim{Kind: api.ClaimPeriod, Auto: a, Number: period, Classes: classes})
		if road != (e == api.OK) || around != (e == api.ErrNone) {
			t.Fatal(a, road, around, e)
		}
	}
	for m := range sample.SmallMachines() {
		classes, _ := mealy.Classes(m)
		for p := range m.Next {
			for q := range m.Next {
				word, _ := mealy.Apart(m, p, q)
				c := api.Claim{Kind: api.ClaimApart, Mealy: m, Word: word, Pairs: [][2]int{{p, q}}}
				if isProved(c) != (classes[p] != classes[q]) {
					t.Fatal(c, classes)
				}
			}
		}
		word, e := home.Home(m)
		if isProved(api.Claim{Kind: api.ClaimHome, Mealy: m, Word: word}) != (e == api.OK) {
			t.Fatal(m, word, e)
		}
	}
	word, _ := maze.Universal(4, 3)
	if !isProved(api.Claim{Kind: api.ClaimMaze, Number: 4, Doors: 3, Word: word}) {
		t.Error(word)
	}
}

func TestStrings(t *testing.T) { // P11.6
	next := sample.Numbers(4)
	accepted := 0
	for range 3000 {
		c := anyClaim(next)
		s, e := proof.Text(c)
		if e != api.OK {
			t.Fatal(c, e)
		}
		if back, e := proof.Parse(s); e != api.OK || !reflect.DeepEqual(back, c) {
			t.Fatal(s, back, e)
		}
		i := next(len(s))
		changed := s[:i] + []string{"", " ", "0", "1", "2", "-", "-1", "+", "00", "x"}[next(10)] + s[i+next(2):]
		back, e := proof.Parse(changed)
		if e != api.OK {
			if e != api.ErrParse || !reflect.DeepEqual(back, api.Claim{}) {
				t.Fatal(changed, back, e)
			}
			continue
		}
		accepted++
		if again, e := proof.Text(back); again != changed || e != api.OK {
			t.Fatal(changed, back, again, e)
		}
	}
	if accepted < 100 {
		t.Error(accepted)
	}
}

func TestParseRefuses(t *testing.T) {
	for _, s := range []string{
		"", " ", "0", "0 0", "8 0 0 0", "-1 0 0", "0 0 0 0", "0 0 0 ", " 0 0 0", "0  0 0", "00 0 0", "0 +0 0", "0 0 -0", "0 0 0x0", "0 0 0.0", "0 -1 0", "0 0 -1",
		"0 1 0", "0 0 1", "0 2 0 0", "0 0 2 5", "0 9223372036854775807 0", "0 0 9223372036854775807 1", "0 0 9223372036854775808",
		"0 0 1 9223372036854775808", "0 0 1 -9223372036854775809", "1 0 1 5", "1 0 -1", "3 0 0", "7 0 0", "7 1 1 1", "6 0 0 0", "0\t0\t0", "0 0 0\n",
		"0 0 " + strconv.Itoa(30000) + strings.Repeat(" 0", 30000),
	} {
		if c, e := proof.Parse(s); e != api.ErrParse || !reflect.DeepEqual(c, api.Claim{}) {
			t.Errorf("%.40q: %d", s, e)
		}
	}
	if c, e := proof.Parse("0 0 1 -9223372036854775808"); e != api.OK || c.Word[0] != math.MinInt {
		t.Error(c, e)
	}
}

func TestSize(t *testing.T) {
	// "0 0 29995" and 29995 letters with a blank each: one byte is left.
	fits := api.Claim{Kind: api.ClaimReset, Word: make([]int, 29995)}
	s, e := proof.Text(fits)
	if e != api.OK || len(s) != api.MaxText-1 {
		t.Fatal(len(s), e)
	}
	if c, e := proof.Parse(s); e != api.OK || !reflect.DeepEqual(c, fits) {
		t.Error(e)
	}
	fits.Word[7] = 10
	s, e = proof.Text(fits)
	if e != api.OK || len(s) != api.MaxText {
		t.Fatal(len(s), e)
	}
	if c, e := proof.Parse(s); e != api.OK || !reflect.DeepEqual(c, fits) {
		t.Error(e)
	}
	fits.Word[9] = 10
	if s, e := proof.Text(fits); s != "" || e != api.ErrSize {
		t.Error(len(s), e)
	}
	var large api.Claim
	large.Word = make([]int, 5000000)
	if s, e := proof.Text(large); s != "" || e != api.ErrSize {
		t.Error(len(s), e)
	}
	if _, e := proof.Parse(strings.Repeat("0 ", 5000000)); e != api.ErrParse {
		t.Error(e)
	}
}

func TestExamples(t *testing.T) {
	for s, want := range map[string]api.Claim{
		"0 2 2 1 0 2 0 0 1 1":     {Kind: api.ClaimReset, Auto: sample.ParseAuto("1.0 0.0"), Word: []int{1}},
		"1 2 2 1 1 2 0 0 1 0 1":   {Kind: api.ClaimNone, Auto: sample.ParseAuto("1.1 0.0"), Pairs: [][2]int{{0, 1}}},
		"2 1 1 0 1 1 0 0":         {Kind: api.ClaimRoad, Auto: sample.ParseAuto("0"), Other: sample.ParseAuto("0")},
		"3 1 1 0 -5 2 6 7":        {Kind: api.ClaimPeriod, Auto: sample.ParseAuto("0"), Number: -5, Classes: []int{6, 7}},
		"4 1 1 0 1 1 3 1 0":       {Kind: api.ClaimHome, Mealy: sample.ParseMealy("0/3"), Word: []int{0}},
		"5 1 1 0 1 1 3 1 0":       {Kind: api.ClaimAlike, Mealy: sample.ParseMealy("0/3"), Classes: []int{0}},
		"6 1 1 0 1 1 3 1 0 1 4 5": {Kind: api.ClaimApart, Mealy: sample.ParseMealy("0/3"), Word: []int{0}, Pairs: [][2]int{{4, 5}}},
		"7 4 3 2 1 0":             {Kind: api.ClaimMaze, Number: 4, Doors: 3, Word: []int{1, 0}},
	} {
		if c, e := proof.Parse(s); e != api.OK || !reflect.DeepEqual(c, want) {
			t.Error(s, c, e)
		}
		if text, e := proof.Text(want); text != s || e != api.OK {
			t.Error(s, text, e)
		}
	}
	if !isProved(proofs()[0]) || !isProved(proofs()[1]) {
		t.Error("examples")
	}
}

func TestMemory(t *testing.T) {
	c := proofs()[0]
	proof.Check(c)
	s, _ := proof.Text(c)
	back, _ := proof.Parse(s)
	back.Word[0], back.Auto.Next[0][0] = 9, 9
	if !reflect.DeepEqual(c, proofs()[0]) {
		t.Error(c)
	}
}
