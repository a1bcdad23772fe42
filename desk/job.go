package desk

import (
	"strconv"

	"mizmaze/api"
	"mizmaze/auto"
	"mizmaze/check"
	"mizmaze/color"
	"mizmaze/euler"
	"mizmaze/home"
	"mizmaze/maze"
	"mizmaze/mealy"
	"mizmaze/net"
	"mizmaze/proof"
	"mizmaze/reset"
	"mizmaze/short"
)

// job is a command with its arguments, as they were read.
type job struct {
	asked   int // how many replies were ok before
	numbers []int
	auto    api.Auto
	machine api.Mealy
	claim   api.Claim
	do      func(*job) ([]string, api.Errno)
}

func (j *job) reset() ([]string, api.Errno) {
	word, e := reset.Reset(j.auto)
	return decimals(word...), e
}

func (j *job) apart() ([]string, api.Errno) {
	pairs, e := reset.Apart(j.auto)
	return decimals(len(pairs)), e
}

func (j *job) shortest() ([]string, api.Errno) {
	word, e := short.Shortest(j.auto)
	return decimals(word...), e
}

func (j *job) rank() ([]string, api.Errno) {
	rank, word, e := short.Rank(j.auto)
	return append(decimals(rank), decimals(word...)...), e
}

func (j *job) period() ([]string, api.Errno) {
	period, e := net.Period(j.auto)
	return decimals(period), e
}

func (j *job) road() ([]string, api.Errno) {
	colouring, word, e := color.Road(j.auto)
	if e != api.OK {
		return nil, e
	}
	text, e := auto.Text(colouring)
	return append([]string{text, ":"}, decimals(word...)...), e
}

func (j *job) bound() ([]string, api.Errno) {
	bound, e := euler.Bound(j.auto)
	return decimals(bound), e
}

func (j *job) classes() ([]string, api.Errno) {
	classes, e := mealy.Classes(j.machine)
	return decimals(classes...), e
}

func (j *job) home() ([]string, api.Errno) {
	word, e := home.Home(j.machine)
	return decimals(word...), e
}

func (j *job) seek() ([]string, api.Errno) {
	word, state, e := home.Seek(j.machine, j.numbers[0])
	return append(decimals(state), decimals(word...)...), e
}

func (j *job) suite() ([]string, api.Errno) {
	words, e := check.Suite(j.machine, j.numbers[0])
	return decimals(len(words)), e
}

func (j *job) mazes() ([]string, api.Errno) {
	count, connected, e := maze.Mazes(j.numbers[0], j.numbers[1])
	return decimals(count, connected), e
}

func (j *job) universal() ([]string, api.Errno) {
	word, e := maze.Universal(j.numbers[0], j.numbers[1])
	return decimals(word...), e
}

func (j *job) proved() ([]string, api.Errno) {
	proved, e := proof.Check(j.claim)
	if proved {
		return []string{"yes"}, e
	}
	return []string{"no"}, e
}

func (j *job) count() ([]string, api.Errno) {
	return decimals(j.asked), api.OK
}

func decimals(numbers ...int) []string {
	words := make([]string, len(numbers))
	for i, n := range numbers {
		words[i] = strconv.Itoa(n)
	}
	return words
}
