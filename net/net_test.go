package net_test

import (
	"slices"
	"strconv"
	"strings"
	"testing"

	"mizmaze/api"
	"mizmaze/auto"
	"mizmaze/net"
	"mizmaze/sample"
)

// autos returns small automata of all kinds, and large ones.
func autos() []api.Auto {
	list := slices.Collect(sample.SmallAutos())
	next := sample.Numbers(3)
	for range 5 {
		list = append(list, sample.Auto(next, 60, 6), sample.Auto(next, 60, 1), sample.Eulerian(next, 60, 2))
	}
	return list
}

// after returns for each state and each number of letters, up to most, the states to which words of that length lead.
func after(a api.Auto, s, most int) [][]bool {
	now := make([]bool, len(a.Next))
	now[s] = true
	levels := [][]bool{now}
	for range most {
		then := make([]bool, len(a.Next))
		for p, in := range now {
			if in {
				for _, q := range a.Next[p] {
					then[q] = true
				}
			}
		}
		levels = append(levels, then)
		now = then
	}
	return levels
}

// closure returns which states are reached from which.
func closure(a api.Auto) [][]bool {
	n := len(a.Next)
	reach := make([][]bool, n)
	for s := range reach {
		reach[s] = make([]bool, n)
		for _, level := range after(a, s, n) {
			for p, in := range level {
				reach[s][p] = reach[s][p] || in
			}
		}
	}
	return reach
}

func strong(reach [][]bool) bool {
	for _, row := range reach {
		if slices.Contains(row, false) {
			return false
		}
	}
	return true
}

func TestForm(t *testing.T) {
	for _, a := range sample.InvalidAutos() {
		if ok, e := net.Connected(a); ok || e != api.ErrForm {
			t.Error("Connected", a, e)
		}
		if w, e := net.Path(a, -1, -1); w != nil || e != api.ErrForm {
			t.Error("Path", a, e)
		}
		if l, e := net.Sinks(a); l != nil || e != api.ErrForm {
			t.Error("Sinks", a, e)
		}
		if p, e := net.Period(a); p != 0 || e != api.ErrForm {
			t.Error("Period", a, e)
		}
		if l, e := net.Classes(a); l != nil || e != api.ErrForm {
			t.Error("Classes", a, e)
		}
	}
}

func TestConnected(t *testing.T) {
	for _, a := range autos() {
		if ok, e := net.Connected(a); ok != strong(closure(a)) || e != api.OK {
			t.Fatal(a, ok, e)
		}
	}
}

func TestPath(t *testing.T) {
	for _, a := range autos() {
		if len(a.Next) > 8 {
			continue
		}
		for s := range a.Next {
			levels := after(a, s, len(a.Next))
			for q := range a.Next {
				checkPath(t, a, s, q, levels)
			}
		}
	}
}

// checkPath compares a path with the first word, in order, of the least length that leads there.
func checkPath(t *testing.T, a api.Auto, s, q int, levels [][]bool) {
	t.Helper()
	word, e := net.Path(a, s, q)
	least := slices.IndexFunc(levels, func(level []bool) bool { return level[q] })
	if least < 0 {
		if word != nil || e != api.ErrNone {
			t.Fatal(a, s, q, word, e)
		}
		return
	}
	var first func(p, length int) ([]int, bool)
	first = func(p, length int) ([]int, bool) {
		if length == 0 {
			return nil, p == q
		}
		for x, r := range a.Next[p] {
			if rest, ok := first(r, length-1); ok {
				return append([]int{x}, rest...), true
			}
		}
		return nil, false
	}
	if want, _ := first(s, least); e != api.OK || !slices.Equal(word, want) {
		t.Fatal(a, s, q, word, want, e)
	}
}

func TestPathArguments(t *testing.T) {
	a := sample.ParseAuto("1.0 0.0")
	for _, pair := range [][2]int{{-1, 0}, {0, -1}, {2, 0}, {0, 2}} {
		if w, e := net.Path(a, pair[0], pair[1]); w != nil || e != api.ErrArg {
			t.Error(pair, e)
		}
	}
	long := make([]string, 60)
	for s := range long {
		long[s] = "0." + strconv.Itoa(min(s+1, 59))
	}
	if w, e := net.Path(sample.ParseAuto(strings.Join(long, " ")), 0, 59); e != api.OK || len(w) != 59 || slices.Contains(w, 0) {
		t.Error(w, e)
	}
}

func TestSinks(t *testing.T) { // P2.3
	for _, a := range autos() {
		reach := closure(a)
		sinks, e := net.Sinks(a)
		if e != api.OK || len(sinks) == 0 {
			t.Fatal(a, sinks, e)
		}
		sink := make([]int, len(a.Next)) // which sink, counted from 1, a state is in
		for i, states := range sinks {
			if len(states) == 0 || i > 0 && sinks[i-1][0] >= states[0] {
				t.Fatal(a, sinks)
			}
			for j, s := range states {
				if sink[s] > 0 || j > 0 && states[j-1] >= s {
					t.Fatal(a, sinks)
				}
				sink[s] = i + 1
			}
		}
		for s, row := range reach {
			into := false
			closed := true
			for q, ok := range row {
				into = into || ok && sink[q] > 0
				closed = closed && (!ok || reach[q][s])
				if sink[s] > 0 && ok != (sink[q] == sink[s]) {
					t.Fatal(a, sinks, s, q)
				}
			}
			if !into || closed != (sink[s] > 0) {
				t.Fatal(a, sinks, s)
			}
		}
	}
}

func TestOneSink(t *testing.T) { // P2.4
	found := 0
	for a := range sample.AllAutos(3, 2) {
		for code := range 1 << 4 {
			word := []int{code & 1, code >> 1 & 1, code >> 2 & 1, code >> 3 & 1}
			image, _ := auto.Image(a, []int{0, 1, 2}, word)
			if len(image) > 1 {
				continue
			}
			found++
			if sinks, _ := net.Sinks(a); len(sinks) != 1 || !slices.Contains(sinks[0], image[0]) {
				t.Fatal(a, word, sinks)
			}
		}
	}
	if found == 0 {
		t.Error("no reset word")
	}
}

func TestPeriod(t *testing.T) { // P2.1
	for _, a := range autos() {
		period, e := net.Period(a)
		classes, ce := net.Classes(a)
		if !strong(closure(a)) {
			if period != 0 || e != api.ErrArg || classes != nil || ce != api.ErrArg {
				t.Fatal(a, period, e, classes, ce)
			}
			continue
		}
		if e != api.OK || ce != api.OK || len(classes) != len(a.Next) || classes[0] != 0 {
			t.Fatal(a, period, e, classes, ce)
		}
		for s, row := range a.Next {
			for _, q := range row {
				if classes[q] != (classes[s]+1)%period {
					t.Fatal(a, period, classes)
				}
			}
		}
		// The classes show that the period divides all lengths; that it is the greatest divisor is counted.
		n := len(a.Next)
		divisor := 0
		for length, level := range after(a, 0, 2*n*n) {
			if level[0] {
				divisor = common(length, divisor)
			}
		}
		if divisor != period {
			t.Fatal(a, period, divisor)
		}
	}
}

// common returns the greatest common divisor of two numbers, of which the second one may be 0.
func common(a, b int) int {
	if b == 0 {
		return a
	}
	return common(b, a%b)
}

func TestEveryLength(t *testing.T) { // P2.2
	found := 0
	for _, a := range autos() {
		if period, _ := net.Period(a); period != 1 {
			continue
		}
		found++
		n := len(a.Next)
		for s := range n {
			for _, level := range after(a, s, (n-1)*(n-1)+5)[(n-1)*(n-1)+1:] {
				if slices.Contains(level, false) {
					t.Fatal(a, s)
				}
			}
		}
	}
	if found < 10 {
		t.Error(found)
	}
}

func TestExamples(t *testing.T) {
	a := sample.ParseAuto("1.1 2.2 0.0")
	if ok, e := net.Connected(a); !ok || e != api.OK {
		t.Error(ok, e)
	}
	if p, e := net.Period(a); p != 3 || e != api.OK {
		t.Error(p, e)
	}
	if l, e := net.Classes(a); !slices.Equal(l, []int{0, 1, 2}) || e != api.OK {
		t.Error(l, e)
	}
	if p, e := net.Period(sample.ParseAuto("1.0 0.0")); p != 1 || e != api.OK {
		t.Error(p, e)
	}
	l, e := net.Sinks(sample.ParseAuto("1.1 1.1 2.2"))
	if len(l) != 2 || !slices.Equal(l[0], []int{1}) || !slices.Equal(l[1], []int{2}) || e != api.OK {
		t.Error(l, e)
	}
	if p, e := net.Period(sample.ParseAuto("0")); p != 1 || e != api.OK {
		t.Error(p, e)
	}
}
