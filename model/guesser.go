package model

import (
	"valise/api"
	"valise/guess"
	"valise/mix"
	"valise/stage"
)

const (
	steady    = 256 // the mixer's last input, which says the same of each bit
	stageRate = 6
)

// kinds tells how many guesses there are by each context, and how they learn.
var kinds = [contexts]struct{ guesses, rate int }{{parts, 4}, {1 << 16, 4}, {1 << 16, 3}}

// tables are guesses by each context.
type tables [contexts]*guess.Table

// guesser makes one chance of the guesses by each context. Of the tables the level tells how many are asked, and learn.
type guesser struct {
	level int
	tables
	*mix.Mixer
	*stage.Stage
}

func newGuesser(level int) guesser {
	g := guesser{level: level, Mixer: mix.New(parts), Stage: stage.New(parts)}
	for i, k := range kinds {
		g.tables[i] = guess.New(k.guesses)
	}
	return g
}

// chance is how likely a one is by the guesses at these places.
func (g *guesser) chance(places [contexts]int) int {
	part := places[0]
	if g.level == 0 {
		return g.tables[0].At(part)
	}
	inputs := [api.Inputs]int{contexts: steady}
	for i, t := range g.asked() {
		inputs[i] = mix.Stretch(t.At(places[i]))
	}
	mixed := g.Mix(part, inputs[:]...)
	return (mixed + 3*g.Refine(mixed, part)) / 4
}

// learn tells the bit that has come to all that the chance of these places was made by.
func (g *guesser) learn(places [contexts]int, bit int) {
	for i, t := range g.asked() {
		t.Learn(places[i], bit, kinds[i].rate)
	}
	if g.level > 0 {
		g.Mixer.Learn(bit)
		g.Stage.Learn(bit, stageRate)
	}
}

func (g *guesser) asked() []*guess.Table {
	return g.tables[:g.level+1]
}
