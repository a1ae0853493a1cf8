package tests

import (
	"math"
	"math/rand/v2"
	"slices"

	"loop.example/restaurantkitchen/impl"
)

// anyDays are days on which lots may be used or not: those of the calendar, and numbers far before and behind it.
var anyDays = []int{math.MinInt, -1, 0, 1, 2, 3, 4, 5, 6, 7, math.MaxInt}

// shelf returns three lots that spoil on different days, not in their order.
func shelf() []impl.Lot {
	return []impl.Lot{{Many: 4, Last: 2}, {Many: 3, Last: 0}, {Many: 5, Last: 1}}
}

// sameDay returns lots of which three spoil on the same day, with one between them that spoils earlier.
func sameDay() []impl.Lot {
	return []impl.Lot{{Many: 3, Last: 4}, {Many: 2, Last: 4}, {Many: 1, Last: 1}, {Many: 9, Last: 4}}
}

func fullShelf() []impl.Lot {
	return slices.Repeat([]impl.Lot{{Many: impl.MaxLot, Last: impl.MaxDays - 1}}, impl.MaxLots)
}

// randomLots returns at most MaxLots valid lots, each with at most so many units.
func randomLots(r *rand.Rand, most int) []impl.Lot {
	lots := make([]impl.Lot, between(r, 0, impl.MaxLots))
	// With few days, several lots spoil on the same one.
	days := between(r, 1, impl.MaxDays)
	for i := range lots {
		lots[i] = impl.Lot{Many: between(r, 0, most), Last: between(r, 0, days-1)}
	}
	return lots
}

// randomWants returns valid wants, of which some are of days with plenty and some of days on which too little is there.
func randomWants(r *rand.Rand) []int {
	most := []int{2, 9, 20, impl.MaxWant}[r.IntN(4)]
	return amounts(r, between(r, 0, impl.MaxDays), most)
}

// randomTake returns how many units are taken of each of valid lots on a day.
func randomTake(r *rand.Rand, lots []impl.Lot, day int) []int {
	take := make([]int, len(lots))
	for i, x := range lots {
		if x.Last >= day {
			take[i] = between(r, 0, x.Many)
		}
	}
	return take
}

func unitsOf(lots []impl.Lot) int {
	units := 0
	for _, x := range lots {
		units += x.Many
	}
	return units
}

// badLots returns lots that are not valid, each with one fault, by what is wrong.
func badLots() map[string][]impl.Lot {
	bad := map[string][]impl.Lot{"one too many": append(fullShelf(), impl.Lot{}), "many too many": make([]impl.Lot, 100)}
	for name, x := range map[string]impl.Lot{
		"less than empty":    {Many: -1, Last: 1},
		"too many units":     {Many: impl.MaxLot + 1, Last: 1},
		"far too many units": {Many: math.MaxInt, Last: 1},
		"far below empty":    {Many: math.MinInt, Last: 1},
		"spoiled before":     {Many: 1, Last: -1},
		"never spoils":       {Many: 1, Last: impl.MaxDays},
		"far before":         {Many: 1, Last: math.MinInt},
		"far behind":         {Many: 1, Last: math.MaxInt},
		"empty, and spoiled": {Many: 0, Last: -1},
	} {
		bad[name] = []impl.Lot{x}
		bad[name+", the first one"] = append([]impl.Lot{x}, shelf()...)
		bad[name+", the last one"] = append(shelf(), x)
	}
	return bad
}

// badWants returns wants that are not valid, each with one fault, by what is wrong.
func badWants() map[string][]int {
	return map[string][]int{
		"one day too many":      make([]int, impl.MaxDays+1),
		"many days too many":    make([]int, 100),
		"less than nothing":     {-1},
		"far below nothing":     {math.MinInt},
		"too much":              {impl.MaxWant + 1},
		"far too much":          {math.MaxInt},
		"first below nothing":   {-1, 1, 1},
		"last below nothing":    {1, 1, -1},
		"last too much":         {0, 0, 0, 0, 0, impl.MaxWant + 1},
		"first too much of all": {impl.MaxWant + 1, 0, 0, 0, 0, 0},
	}
}

// useAllowed tells, lot by lot and day by day, whether a table uses no more than there is, nothing that is spoiled, and no more than is wanted.
func useAllowed(lots []impl.Lot, wants []int, use [][]int) bool {
	for i, x := range lots {
		taken := 0
		for day := range wants {
			taken += use[day][i]
			if use[day][i] < 0 || use[day][i] > 0 && day > x.Last {
				return false
			}
		}
		if taken > x.Many {
			return false
		}
	}
	for day, want := range wants {
		if sumOf(use[day]) > want {
			return false
		}
	}
	return true
}

// eachUse calls a check with every table for lots and wants that has numbers up to one more than the lots have units.
func eachUse(lots []impl.Lot, wants []int, check func(use [][]int)) {
	use := make([][]int, len(wants))
	for day := range use {
		use[day] = make([]int, len(lots))
	}
	var fill func(place int)
	fill = func(place int) {
		if place == len(lots)*len(wants) {
			check(use)
			return
		}
		day, i := place/len(lots), place%len(lots)
		for n := 0; n <= lots[i].Many+1; n++ {
			use[day][i] = n
			fill(place + 1)
		}
		use[day][i] = 0
	}
	fill(0)
}

// copyUse returns a copy of a table, with rows of their own.
func copyUse(use [][]int) [][]int {
	use = slices.Clone(use)
	for day := range use {
		use[day] = slices.Clone(use[day])
	}
	return use
}

func sameUse(use, other [][]int) bool {
	return slices.EqualFunc(use, other, slices.Equal[[]int])
}

// spoilLots writes over all memory of lots, their spare capacity too.
func spoilLots(lots []impl.Lot) {
	lots = lots[:cap(lots)]
	for i := range lots {
		lots[i] = impl.Lot{Many: -77, Last: -77}
	}
}

// withLot returns a copy of lots with another one at an index.
func withLot(lots []impl.Lot, index int, x impl.Lot) []impl.Lot {
	lots = slices.Clone(lots)
	lots[index] = x
	return lots
}
