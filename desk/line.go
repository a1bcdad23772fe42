package desk

import (
	"strconv"
	"strings"

	"mizmaze/api"
	"mizmaze/auto"
	"mizmaze/mealy"
	"mizmaze/proof"
)

// maxNumber is the greatest small number.
const maxNumber = 1000000

// What follows the small numbers of a command.
const (
	nothing = iota
	anAuto
	aMachine
	aClaim
)

// command is how a command is written, and what does it.
type command struct {
	numbers int // how many small numbers follow its name
	rest    int // what follows them
	do      func(*job) ([]string, api.Errno)
}

// commands returns the commands by their names.
func commands() map[string]command {
	return map[string]command{
		"reset":     {0, anAuto, (*job).reset},
		"apart":     {0, anAuto, (*job).apart},
		"shortest":  {0, anAuto, (*job).shortest},
		"rank":      {0, anAuto, (*job).rank},
		"period":    {0, anAuto, (*job).period},
		"road":      {0, anAuto, (*job).road},
		"bound":     {0, anAuto, (*job).bound},
		"classes":   {0, aMachine, (*job).classes},
		"home":      {0, aMachine, (*job).home},
		"seek":      {1, aMachine, (*job).seek},
		"suite":     {1, aMachine, (*job).suite},
		"mazes":     {2, nothing, (*job).mazes},
		"universal": {2, nothing, (*job).universal},
		"claim":     {0, aClaim, (*job).proved},
		"asked":     {0, nothing, (*job).count},
	}
}

// jobOf reads a line.
func jobOf(line string, asked int) (*job, api.Errno) {
	words := strings.Split(line, " ")
	if !printable(words) {
		return nil, api.ErrForm
	}
	c, found := commands()[words[0]]
	given := words[1:]
	if !found || len(given) < c.numbers || (c.rest == nothing) != (len(given) == c.numbers) {
		return nil, api.ErrForm
	}
	j := &job{asked: asked, do: c.do}
	for _, word := range given[:c.numbers] {
		n, ok := smallNumber(word)
		if !ok {
			return nil, api.ErrForm
		}
		j.numbers = append(j.numbers, n)
	}
	if e := j.read(c.rest, strings.Join(given[c.numbers:], " ")); e != api.OK {
		return nil, e
	}
	return j, api.OK
}

// printable reports whether all words are of printable bytes, and none is empty.
func printable(words []string) bool {
	for _, word := range words {
		for i := range len(word) {
			if word[i] < 33 || word[i] > 126 {
				return false
			}
		}
		if word == "" {
			return false
		}
	}
	return true
}

// smallNumber returns the small number that a word is, and whether it is one.
func smallNumber(word string) (int, bool) {
	n, err := strconv.Atoi(word)
	if err != nil || n < 0 || n > maxNumber || strconv.Itoa(n) != word {
		return 0, false
	}
	return n, true
}

// read reads what follows the small numbers.
func (j *job) read(rest int, text string) api.Errno {
	e := api.OK
	switch rest {
	case anAuto:
		j.auto, e = auto.Parse(text)
	case aMachine:
		j.machine, e = mealy.Parse(text)
	case aClaim:
		j.claim, e = proof.Parse(text)
	}
	return e
}
