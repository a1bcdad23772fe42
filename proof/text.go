package proof

import (
	"strconv"

	"mizmaze/api"
)

// writer writes the words of a claim.
type writer struct {
	text []byte
}

func (w *writer) number(n int) {
	if len(w.text) > api.MaxText {
		return // too long already: what follows is not needed
	}
	if len(w.text) > 0 {
		w.text = append(w.text, ' ')
	}
	w.text = strconv.AppendInt(w.text, int64(n), 10)
}

func (w *writer) row(row []int) {
	writeList(w, row, w.number)
}

func (w *writer) table(table [][]int) {
	writeList(w, table, w.row)
}

func (w *writer) pair(pair [2]int) {
	w.number(pair[0])
	w.number(pair[1])
}

func (w *writer) claim(c api.Claim) {
	uses := used(c.Kind)
	w.number(c.Kind)
	if uses&ofAuto != 0 {
		w.table(c.Auto.Next)
	}
	if uses&ofOther != 0 {
		w.table(c.Other.Next)
	}
	if uses&ofMealy != 0 {
		w.table(c.Mealy.Next)
		w.table(c.Mealy.Out)
	}
	if uses&ofNumber != 0 {
		w.number(c.Number)
	}
	if uses&ofDoors != 0 {
		w.number(c.Doors)
	}
	if uses&ofWord != 0 {
		w.row(c.Word)
	}
	if uses&ofClasses != 0 {
		w.row(c.Classes)
	}
	if uses&ofPairs != 0 {
		writeList(w, c.Pairs, w.pair)
	}
}

// writeList writes the length of a list, and then its elements.
func writeList[E any](w *writer, list []E, write func(E)) {
	w.number(len(list))
	for _, element := range list {
		write(element)
	}
}

// reader reads the words of a claim. It panics if they are not those of a claim: Parse recovers.
type reader struct {
	words []string
}

func (r *reader) number() int {
	if len(r.words) == 0 {
		panic("a word is missing")
	}
	word := r.words[0]
	r.words = r.words[1:]
	n, err := strconv.Atoi(word)
	if err != nil || strconv.Itoa(n) != word {
		panic("a word is not a number")
	}
	return n
}

func (r *reader) row() []int {
	return readList(r, r.number)
}

func (r *reader) table() [][]int {
	return readList(r, r.row)
}

func (r *reader) pair() [2]int {
	first := r.number()
	second := r.number()
	return [2]int{first, second}
}

func (r *reader) claim() api.Claim {
	c := api.Claim{Kind: r.number()}
	uses := used(c.Kind)
	if uses == 0 {
		panic("there is no such kind")
	}
	if uses&ofAuto != 0 {
		c.Auto.Next = r.table()
	}
	if uses&ofOther != 0 {
		c.Other.Next = r.table()
	}
	if uses&ofMealy != 0 {
		c.Mealy.Next = r.table()
		c.Mealy.Out = r.table()
	}
	if uses&ofNumber != 0 {
		c.Number = r.number()
	}
	if uses&ofDoors != 0 {
		c.Doors = r.number()
	}
	if uses&ofWord != 0 {
		c.Word = r.row()
	}
	if uses&ofClasses != 0 {
		c.Classes = r.row()
	}
	if uses&ofPairs != 0 {
		c.Pairs = readList(r, r.pair)
	}
	if len(r.words) > 0 {
		panic("a word is left")
	}
	return c
}

// readList reads the length of a list, and then its elements. Each of them has a word at least: a length that is too
// great ends where words are missing.
func readList[E any](r *reader, read func() E) []E {
	length := r.number()
	if length < 0 {
		panic("a length is negative")
	}
	var list []E
	for range length {
		list = append(list, read())
	}
	return list
}
