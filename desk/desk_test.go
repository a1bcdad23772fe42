package desk_test

import (
	"slices"
	"strconv"
	"strings"
	"testing"

	"mizmaze/api"
	"mizmaze/auto"
	"mizmaze/check"
	"mizmaze/color"
	"mizmaze/desk"
	"mizmaze/euler"
	"mizmaze/home"
	"mizmaze/maze"
	"mizmaze/mealy"
	"mizmaze/net"
	"mizmaze/proof"
	"mizmaze/reset"
	"mizmaze/sample"
	"mizmaze/short"
)

// answer writes the reply to be expected.
func answer(e api.Errno, parts ...any) string {
	if e != api.OK {
		return "error " + strconv.Itoa(int(e))
	}
	reply := "ok"
	for _, part := range parts {
		switch p := part.(type) {
		case int:
			reply += " " + strconv.Itoa(p)
		case string:
			reply += " " + p
		case []int:
			for _, n := range p {
				reply += " " + strconv.Itoa(n)
			}
		}
	}
	return reply
}

func expect(t *testing.T, d *desk.Desk, line, want string) {
	t.Helper()
	if got := d.Do(line); got != want {
		t.Fatalf("%.200q: %.200q, not %.200q", line, got, want)
	}
}

func TestAutomata(t *testing.T) {
	d := desk.New()
	next := sample.Numbers(1)
	autos := slices.Collect(sample.SmallAutos())
	autos = append(autos, sample.Auto(next, 12, 2), sample.Auto(next, 13, 2), sample.Auto(next, 60, 6), sample.Eulerian(next, 60, 2))
	for _, a := range autos {
		s, _ := auto.Text(a)
		word, e := reset.Reset(a)
		expect(t, d, "reset "+s, answer(e, word))
		pairs, e := reset.Apart(a)
		expect(t, d, "apart "+s, answer(e, len(pairs)))
		word, e = short.Shortest(a)
		expect(t, d, "shortest "+s, answer(e, word))
		rank, word, e := short.Rank(a)
		expect(t, d, "rank "+s, answer(e, rank, word))
		period, e := net.Period(a)
		expect(t, d, "period "+s, answer(e, period))
		b, word, e := color.Road(a)
		colouring, _ := auto.Text(b)
		expect(t, d, "road "+s, answer(e, colouring, ":", word))
		bound, e := euler.Bound(a)
		expect(t, d, "bound "+s, answer(e, bound))
	}
}

func TestMachines(t *testing.T) {
	d := desk.New()
	for _, m := range append(slices.Collect(sample.SmallMachines()), sample.LargeMachines()...) {
		s, _ := mealy.Text(m)
		classes, e := mealy.Classes(m)
		expect(t, d, "classes "+s, answer(e, classes))
		word, e := home.Home(m)
		expect(t, d, "home "+s, answer(e, word))
		for _, n := range []int{0, 1, 2, 3, 60, 1000000} {
			word, state, e := home.Seek(m, n)
			expect(t, d, "seek "+strconv.Itoa(n)+" "+s, answer(e, state, word))
			words, e := check.Suite(m, n)
			expect(t, d, "suite "+strconv.Itoa(n)+" "+s, answer(e, len(words)))
		}
	}
}

func TestMazes(t *testing.T) {
	d := desk.New()
	for _, size := range [][2]int{{1, 1}, {2, 1}, {2, 2}, {3, 3}, {1, 6}, {6, 2}, {0, 1}, {1, 0}, {7, 2}, {1, 7}, {1000000, 1000000}} {
		arguments := strconv.Itoa(size[0]) + " " + strconv.Itoa(size[1])
		all, linked, e := maze.Mazes(size[0], size[1])
		expect(t, d, "mazes "+arguments, answer(e, all, linked))
		word, e := maze.Universal(size[0], size[1])
		expect(t, d, "universal "+arguments, answer(e, word))
	}
}

func TestClaims(t *testing.T) {
	d := desk.New()
	for line, want := range map[string]string{
		"claim 0 2 2 1 0 2 0 0 1 1":          "ok yes",
		"claim 0 2 2 1 0 2 0 0 1 0":          "ok no",
		"claim 1 2 2 1 1 2 0 0 1 0 1":        "ok yes",
		"claim 7 2 2 2 0 1":                  "ok yes",
		"claim 7 2 2 1 0":                    "ok no",
		"claim 7 2 2 2 0":                    "error 5",
		"claim 8 0 0":                        "error 5",
		"claim -1 0 0":                       "error 5",
		"claim 00":                           "error 5",
		"claim":                              "error 1",
		"claim x":                            "error 5",
		"claim 0 1 1 0 1 99999999999999999":  "ok no",
		"claim 0 1 1 0 1 -99999999999999999": "ok no",
	} {
		expect(t, d, line, want)
	}
}

func TestForm(t *testing.T) {
	d := desk.New()
	for _, line := range []string{
		"", " ", "x", "reset", "reset ", " reset 0", "reset  0", "reset 0 ", "Reset 0", "reset\t0", "reset 0\n", "reset 0\x00", "reset 0\x7f", "reset \u00e4", "\xff",
		"seek", "seek 0", "seek x 0/0", "seek -1 0/0", "seek 00 0/0", "seek +0 0/0", "seek 1000001 0/0", "seek 0/0 0", "seek 99999999999999999999 0/0",
		"suite 0", "suite 0/0", "classes", "home", "road", "rank", "shortest", "period", "bound", "apart",
		"mazes", "mazes 1", "mazes 1 1 1", "mazes 1 x", "mazes 01 1", "mazes 1 1000001", "universal 1", "universal 1 1 1", "universal -0 1",
		"asked 0", "asked asked", "claims 0",
	} {
		expect(t, d, line, "error 1")
	}
	// The first and the last printable byte are printable.
	expect(t, d, "reset !", "error 5")
	expect(t, d, "reset ~", "error 5")
	// Small numbers are looked at before the machine.
	expect(t, d, "seek x x", "error 1")
	expect(t, d, "seek 0 x", "error 5")
	expect(t, d, "seek 7 x", "error 5")
	expect(t, d, "seek 7 0/0", "error 2")
	expect(t, d, "suite 1000000 0/0", "error 2")
	for _, name := range []string{"reset", "apart", "shortest", "rank", "period", "road", "bound", "classes", "home"} {
		expect(t, d, name+" x", "error 5")
		expect(t, d, name+" 0.0 0", "error 5")
	}
	if d.Asked() != 0 {
		t.Error(d.Asked())
	}
}

func TestLongLines(t *testing.T) {
	d := desk.New()
	long := "reset " + strings.Repeat("0", api.MaxText-6)
	expect(t, d, long, "error 5")
	expect(t, d, long+"0", "error 3")
	expect(t, d, strings.Repeat(" ", api.MaxText), "error 1")
	expect(t, d, strings.Repeat(" ", api.MaxText+1), "error 3")
	word := "claim 0 1 1 0 29989" + strings.Repeat(" 0", 29989)
	if len(word) > api.MaxText {
		t.Fatal(len(word))
	}
	expect(t, d, word, "ok yes")
}

// No desk: a nil one, a zero value, and a copy of one that was returned.
func TestNoDesk(t *testing.T) {
	real := desk.New()
	real.Do("asked")
	copied := *real
	for i, d := range []*desk.Desk{nil, {}, &copied} {
		if s := d.Do("asked"); s != "error 6" {
			t.Error(i, s)
		}
		if s := d.Do(strings.Repeat("x", api.MaxText+1)); s != "error 6" {
			t.Error(i, s)
		}
		if d.Asked() != 0 || d.Clone() != nil {
			t.Error(i)
		}
	}
	if real.Asked() != 1 {
		t.Error(real.Asked())
	}
}

func TestAsked(t *testing.T) { // P12.3
	d := desk.New()
	count := 0
	for i, line := range []string{"asked", "asked", "x", "reset 0", "reset 1.1 0.0", "asked", "claim 7 2 2 1 0", "claim 9", "mazes 0 0", "asked"} {
		reply := d.Do(line)
		if line == "asked" && reply != "ok "+strconv.Itoa(count) {
			t.Error(i, reply, count)
		}
		if strings.HasPrefix(reply, "ok") {
			count++
		}
		if d.Asked() != count {
			t.Error(i, line, reply, d.Asked(), count)
		}
	}
	if count != 6 {
		t.Error(count)
	}
}

func TestClone(t *testing.T) {
	d := desk.New()
	d.Do("asked")
	c := d.Clone()
	expect(t, c, "asked", "ok 1")
	expect(t, c, "asked", "ok 2")
	expect(t, d, "asked", "ok 1")
	if c.Asked() != 3 || d.Asked() != 2 || c.Clone().Asked() != 3 || desk.New().Asked() != 0 {
		t.Error(c.Asked(), d.Asked())
	}
}

func TestPlay(t *testing.T) {
	replies, e := desk.Play([]string{"asked", "x", "shortest 1.0 2.1 0.0", "asked"})
	if !slices.Equal(replies, []string{"ok 0", "error 1", "ok 1 0 0 1", "ok 2"}) || e != api.OK {
		t.Error(replies, e)
	}
	lines := slices.Repeat([]string{"asked"}, api.MaxLines)
	replies, e = desk.Play(lines)
	if len(replies) != api.MaxLines || replies[api.MaxLines-1] != "ok 39" || e != api.OK {
		t.Error(replies, e)
	}
	if replies, e := desk.Play(append(lines, "")); replies != nil || e != api.ErrSize {
		t.Error(replies, e)
	}
	if replies, e := desk.Play(nil); len(replies) != 0 || e != api.OK {
		t.Error(replies, e)
	}
}

func TestWhole(t *testing.T) { // P12.1
	d := desk.New()
	for a := range sample.SmallAutos() {
		s, _ := auto.Text(a)
		reply := d.Do("reset " + s)
		if !strings.HasPrefix(reply, "ok") {
			continue
		}
		c, e := proof.Text(api.Claim{Kind: api.ClaimReset, Auto: a, Word: numbers(t, reply)})
		if e != api.OK {
			t.Fatal(s, e)
		}
		expect(t, d, "claim "+c, "ok yes")
	}
	for _, size := range [][2]int{{1, 1}, {3, 2}, {12, 1}, {4, 3}, {2, 6}} {
		reply := d.Do("universal " + strconv.Itoa(size[0]) + " " + strconv.Itoa(size[1]))
		c, _ := proof.Text(api.Claim{Kind: api.ClaimMaze, Number: size[0], Doors: size[1], Word: numbers(t, reply)})
		expect(t, d, "claim "+c, "ok yes")
	}
}

// numbers returns the numbers of a reply.
func numbers(t *testing.T, reply string) []int {
	t.Helper()
	var list []int
	for _, word := range strings.Fields(reply)[1:] {
		n, err := strconv.Atoi(word)
		if err != nil {
			t.Fatal(reply)
		}
		list = append(list, n)
	}
	return list
}

func TestFree(t *testing.T) { // P12.2
	lines := []string{"reset 1.0 0.0", "x", "rank 1.1 0.0", "seek 1 1/0.0/1 0/0.1/0", "claim 7 2 2 2 0 1", "road 1.0 0.1", "home 1/0 0/0", "mazes 3 2"}
	var first []string
	for _, line := range lines {
		first = append(first, desk.New().Do(line))
	}
	d := desk.New()
	for range 3 {
		for i, line := range slices.Backward(lines) {
			expect(t, d, line, first[i])
		}
	}
}

func TestExamples(t *testing.T) {
	d := desk.New()
	expect(t, d, "shortest 1.0 2.1 0.0", "ok 1 0 0 1")
	expect(t, d, "period 1.1 2.2 0.0", "ok 3")
	expect(t, d, "mazes 2 1", "ok 2 1")
	expect(t, d, "reset 1.1 0.0", "error 4")
	expect(t, d, "reset 0", "ok")
	expect(t, d, "road 0", "ok 0 :")
	expect(t, d, "rank 1.1 0.0", "ok 2")
	expect(t, d, "apart 1.1 0.0", "ok 1")
	expect(t, d, "classes 1/0.0/1 0/0.1/1", "ok 0 0")
	expect(t, d, "seek 1 1/0.0/1 0/0.1/0", "ok 1 1")
	expect(t, d, "suite 0 1/0.0/1 0/0.1/0", "ok 5")
	expect(t, d, "bound 0.1 0.2 1.2", "ok 3")
	expect(t, d, "home 0/0 0/0", "ok 0")
	expect(t, d, "universal 1 3", "ok")
	expect(t, d, "asked", "ok 13")
}
