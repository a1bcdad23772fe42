package maze

import (
	"iter"

	"mizmaze/api"
	"mizmaze/search"
	"mizmaze/sets"
)

// walker is somebody who is in a room of a maze.
type walker struct {
	maze api.Maze
	room int
}

// through goes through a door, and returns the room behind it.
func (w *walker) through(door int) int {
	w.room = w.maze.Doors[w.room][door].Room
	return w.room
}

// missing walks by a word, and returns the rooms that are not visited. The walk ends when there are none.
func (w *walker) missing(word []int) sets.Set {
	left := sets.Below(len(w.maze.Doors)).Without(w.room)
	for room := range visited(word, w.through) {
		left = left.Without(room)
		if left == 0 {
			break
		}
	}
	return left
}

// nearest returns the first shortest word that leads to one of those rooms.
func (w *walker) nearest(rooms sets.Set) []int {
	lead := func(room, door int) int { return w.maze.Doors[room][door].Room }
	word, _ := search.First(w.room, len(w.maze.Doors[0]), lead, rooms.Has)
	return word
}

// visited ranges over the rooms to which a word leads, letter by letter.
func visited(word []int, through func(door int) int) iter.Seq[int] {
	return func(yield func(int) bool) {
		for _, door := range word {
			if !yield(through(door)) {
				return
			}
		}
	}
}
