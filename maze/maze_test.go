package maze_test

import (
	"slices"
	"testing"

	"mizmaze/api"
	"mizmaze/maze"
	"mizmaze/sample"
)

// anyMaze returns some maze: its doors are taken in some order, and joined to themselves or to the next one.
func anyMaze(next func(int) int, rooms, doors int) api.Maze {
	z := api.Maze{Doors: make([][]api.Door, rooms)}
	for r := range z.Doors {
		z.Doors[r] = make([]api.Door, doors)
	}
	order := sample.Order(next, rooms*doors)
	for len(order) > 0 {
		a, b := order[0], order[min(len(order)-1, min(next(4), 1))]
		z.Doors[a/doors][a%doors] = api.Door{Room: b / doors, Door: b % doors}
		z.Doors[b/doors][b%doors] = api.Door{Room: a / doors, Door: a % doors}
		order = slices.DeleteFunc(order, func(p int) bool { return p == a || p == b })
	}
	return z
}

// someMazes returns mazes of all sizes.
func someMazes() []api.Maze {
	next := sample.Numbers(1)
	var list []api.Maze
	for range 300 {
		list = append(list, anyMaze(next, 1+next(8), 1+next(6)))
	}
	for range 10 {
		list = append(list, anyMaze(next, api.MaxRooms, api.MaxDoors))
	}
	return list
}

// allMazes returns all mazes of a size: of all ways to lead from door to door, those that are valid.
func allMazes(rooms, doors int) []api.Maze {
	var list []api.Maze
	ports := rooms * doors
	count := 1
	for range ports {
		count *= ports
	}
	for code := range count {
		z := api.Maze{Doors: make([][]api.Door, rooms)}
		for r := range z.Doors {
			for range doors {
				port := code % ports
				code /= ports
				z.Doors[r] = append(z.Doors[r], api.Door{Room: port / doors, Door: port % doors})
			}
		}
		if maze.Valid(z) {
			list = append(list, z)
		}
	}
	return list
}

// reached goes on as long as rooms are found next to those that are known.
func reached(z api.Maze) bool {
	known := []int{0}
	for i := 0; i < len(known); i++ {
		for _, to := range z.Doors[known[i]] {
			if !slices.Contains(known, to.Room) {
				known = append(known, to.Room)
			}
		}
	}
	return len(known) == len(z.Doors)
}

func walk(z api.Maze, room int, word []int) []int {
	list := []int{room}
	for _, d := range word {
		room = z.Doors[room][d].Room
		list = append(list, room)
	}
	return list
}

func visitsAll(z api.Maze, start int, word []int) bool {
	list := walk(z, start, word)
	for r := range z.Doors {
		if !slices.Contains(list, r) {
			return false
		}
	}
	return true
}

// sizes returns the numbers of rooms and doors for which all mazes can be gone through.
func sizes() [][2]int {
	var list [][2]int
	for rooms := 1; rooms <= 12; rooms++ {
		for doors := 1; doors <= 6 && rooms*doors <= 12; doors++ {
			list = append(list, [2]int{rooms, doors})
		}
	}
	return list
}

func badSizes() [][2]int {
	return [][2]int{{0, 1}, {1, 0}, {-1, 1}, {1, -1}, {-2, -2}, {13, 1}, {7, 2}, {5, 3}, {4, 4}, {3, 5}, {3, 6}, {1, 7}, {2, 7}, {1 << 62, 4}, {4, 1 << 62}, {1 << 32, 1 << 32}}
}

func invalidMazes() []api.Maze {
	door := func(r, d int) api.Door { return api.Door{Room: r, Door: d} }
	return []api.Maze{
		{},
		{Doors: [][]api.Door{{}}},
		{Doors: [][]api.Door{{door(1, 0)}}},
		{Doors: [][]api.Door{{door(-1, 0)}}},
		{Doors: [][]api.Door{{door(0, 1)}}},
		{Doors: [][]api.Door{{door(0, -1)}}},
		{Doors: [][]api.Door{{door(0, 1), door(0, 1)}}},
		{Doors: [][]api.Door{{door(1, 0)}, {door(1, 0)}}},
		{Doors: [][]api.Door{{door(0, 0)}, {door(1, 0), door(1, 1)}}},
		{Doors: [][]api.Door{{door(0, 0), door(0, 1)}, {door(1, 0)}}},
		{Doors: [][]api.Door{{door(0, 0)}, {}}},
		anyMaze(sample.Numbers(2), 61, 1),
		anyMaze(sample.Numbers(2), 1, 7),
	}
}

func TestValid(t *testing.T) {
	for _, z := range someMazes() {
		if !maze.Valid(z) {
			t.Error("not valid:", z)
		}
	}
	for _, z := range invalidMazes() {
		if maze.Valid(z) {
			t.Error("valid:", z)
		}
		if ok, e := maze.Connected(z); ok || e != api.ErrForm {
			t.Error("Connected", z, e)
		}
		if l, e := maze.Walk(z, -1, []int{-1}); l != nil || e != api.ErrForm {
			t.Error("Walk", z, e)
		}
		if ok, e := maze.Visits(z, -1, []int{-1}); ok || e != api.ErrForm {
			t.Error("Visits", z, e)
		}
	}
}

func TestArguments(t *testing.T) {
	z := allMazes(2, 2)[0]
	for _, start := range []int{-1, 2} {
		if l, e := maze.Walk(z, start, nil); l != nil || e != api.ErrArg {
			t.Error("Walk", start, e)
		}
		if ok, e := maze.Visits(z, start, nil); ok || e != api.ErrArg {
			t.Error("Visits", start, e)
		}
	}
	for _, word := range [][]int{{2}, {0, -1}, make([]int, api.MaxWord+1)} {
		if l, e := maze.Walk(z, 0, word); l != nil || e != api.ErrArg {
			t.Error("Walk", e)
		}
		if ok, e := maze.Visits(z, 0, word); ok || e != api.ErrArg {
			t.Error("Visits", e)
		}
		if ok, e := maze.Check(2, 2, word); ok || e != api.ErrArg {
			t.Error("Check", e)
		}
	}
	if l, e := maze.Walk(z, 0, make([]int, api.MaxWord)); len(l) != api.MaxWord+1 || e != api.OK {
		t.Error("Walk", e)
	}
	if ok, e := maze.Check(1, 1, make([]int, api.MaxWalk)); !ok || e != api.OK {
		t.Error("Check", ok, e)
	}
	if ok, e := maze.Check(1, 1, make([]int, api.MaxWalk+1)); ok || e != api.ErrArg {
		t.Error("Check", ok, e)
	}
	for _, size := range badSizes() {
		if a, b, e := maze.Mazes(size[0], size[1]); a != 0 || b != 0 || e != api.ErrArg {
			t.Error("Mazes", size, e)
		}
		if ok, e := maze.Check(size[0], size[1], nil); ok || e != api.ErrArg {
			t.Error("Check", size, e)
		}
		if w, e := maze.Universal(size[0], size[1]); w != nil || e != api.ErrArg {
			t.Error("Universal", size, e)
		}
	}
}

func TestWalk(t *testing.T) {
	next := sample.Numbers(3)
	found := [2]int{}
	for _, z := range someMazes() {
		word := sample.Word(next, len(z.Doors[0]), next(30))
		start := next(len(z.Doors))
		if l, e := maze.Walk(z, start, word); !slices.Equal(l, walk(z, start, word)) || e != api.OK {
			t.Fatal(z, start, word, l, e)
		}
		want := visitsAll(z, start, word)
		if ok, e := maze.Visits(z, start, word); ok != want || e != api.OK {
			t.Fatal(z, start, word, ok, e)
		}
		if want {
			found[0]++
		} else {
			found[1]++
		}
	}
	if min(found[0], found[1]) < 20 {
		t.Error(found)
	}
}

func TestConnected(t *testing.T) {
	for _, z := range someMazes() {
		if ok, e := maze.Connected(z); ok != reached(z) || e != api.OK {
			t.Fatal(z, ok, e)
		}
	}
}

func TestBack(t *testing.T) { // P10.2
	for _, z := range someMazes() {
		for r, room := range z.Doors {
			for d, to := range room {
				if l, e := maze.Walk(z, r, []int{d, to.Door}); !slices.Equal(l, []int{r, to.Room, r}) || e != api.OK {
					t.Fatal(z, r, d, l, e)
				}
			}
		}
	}
}

func TestNames(t *testing.T) { // P10.4
	next := sample.Numbers(4)
	for _, z := range someMazes() {
		names := sample.Order(next, len(z.Doors))
		named := api.Maze{Doors: make([][]api.Door, len(names))}
		for r, room := range z.Doors {
			for _, to := range room {
				named.Doors[names[r]] = append(named.Doors[names[r]], api.Door{Room: names[to.Room], Door: to.Door})
			}
		}
		one, _ := maze.Connected(z)
		other, _ := maze.Connected(named)
		word := sample.Word(next, len(z.Doors[0]), next(20))
		start := next(len(names))
		first, _ := maze.Walk(z, start, word)
		second, _ := maze.Walk(named, names[start], word)
		for i, r := range first {
			first[i] = names[r]
		}
		if one != other || !slices.Equal(first, second) {
			t.Fatal(z, names, start, word)
		}
	}
}

// There are as many mazes as ways to join doors in pairs or to themselves. They are the connected ones, and those in which
// the room 0 is connected with some other rooms only.
func TestMazes(t *testing.T) {
	ways := []int{1, 1}
	for n := 2; n <= api.MaxPorts; n++ {
		ways = append(ways, ways[n-1]+(n-1)*ways[n-2])
	}
	choose := func(n, k int) int {
		c := 1
		for i := range k {
			c = c * (n - i) / (i + 1)
		}
		return c
	}
	for _, size := range sizes() {
		linked := make([]int, size[0]+1)
		for r := 1; r <= size[0]; r++ {
			linked[r] = ways[r*size[1]]
			for k := 1; k < r; k++ {
				linked[r] -= choose(r-1, k-1) * linked[k] * ways[(r-k)*size[1]]
			}
		}
		a, b, e := maze.Mazes(size[0], size[1])
		if a != ways[size[0]*size[1]] || b != linked[size[0]] || e != api.OK {
			t.Error(size, a, b, linked[size[0]], e)
		}
	}
}

func TestUniversal(t *testing.T) { // P10.1, P10.3
	next := sample.Numbers(5)
	for _, size := range sizes() {
		word, e := maze.Universal(size[0], size[1])
		if e != api.OK || len(word) > api.MaxWalk {
			t.Fatal(size, len(word), e)
		}
		if ok, e := maze.Check(size[0], size[1], word); !ok || e != api.OK {
			t.Fatal(size, word, ok, e)
		}
		more := slices.Concat(sample.Word(next, size[1], next(9)), word, sample.Word(next, size[1], next(9)))
		if ok, e := maze.Check(size[0], size[1], more); !ok || e != api.OK {
			t.Fatal(size, more, ok, e)
		}
		more = append(sample.Word(next, size[1], api.MaxWalk-len(word)), word...)
		if ok, e := maze.Check(size[0], size[1], more); !ok || e != api.OK {
			t.Fatal(size, more, ok, e)
		}
	}
}

// Check is compared with a walk through all mazes that have at most 6 doors.
func TestCheck(t *testing.T) {
	next := sample.Numbers(6)
	found := [2]int{}
	for _, size := range sizes() {
		if size[0]*size[1] > 6 {
			continue
		}
		var list []api.Maze
		for rooms := 1; rooms <= size[0]; rooms++ {
			for _, z := range allMazes(rooms, size[1]) {
				if reached(z) {
					list = append(list, z)
				}
			}
		}
		word, _ := maze.Universal(size[0], size[1])
		for range 20 {
			want := true
			for _, z := range list {
				for start := range z.Doors {
					want = want && visitsAll(z, start, word)
				}
			}
			if ok, e := maze.Check(size[0], size[1], word); ok != want || e != api.OK {
				t.Fatal(size, word, ok, want, e)
			}
			if want {
				found[0]++
			} else {
				found[1]++
			}
			word = sample.Word(next, size[1], next(12))
		}
	}
	if min(found[0], found[1]) < 20 {
		t.Error(found)
	}
}

func TestExamples(t *testing.T) {
	if a, b, e := maze.Mazes(2, 1); a != 2 || b != 1 || e != api.OK {
		t.Error(a, b, e)
	}
	if ok, e := maze.Check(1, 3, nil); !ok || e != api.OK {
		t.Error(ok, e)
	}
	if ok, e := maze.Check(2, 2, []int{0, 1}); !ok || e != api.OK {
		t.Error(ok, e)
	}
	if ok, e := maze.Check(2, 2, []int{0}); ok || e != api.OK {
		t.Error(ok, e)
	}
	if ok, e := maze.Visits(api.Maze{Doors: [][]api.Door{{{Room: 0, Door: 0}}}}, 0, nil); !ok || e != api.OK {
		t.Error(ok, e)
	}
}
