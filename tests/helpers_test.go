package tests

import (
	"math/rand/v2"
	"slices"
	"testing"
)

// forSeeds runs a check with a random source for each of so many seeds, which are the same in every run.
func forSeeds(t *testing.T, many int, check func(t *testing.T, r *rand.Rand)) {
	t.Helper()
	for seed := range many {
		check(t, rand.New(rand.NewPCG(uint64(seed), 17)))
		if t.Failed() {
			t.Fatalf("with the seed %d", seed)
		}
	}
}

// between returns a random number in least..most.
func between(r *rand.Rand, least, most int) int {
	return least + r.IntN(most-least+1)
}

// amounts returns so many random numbers in 0..most.
func amounts(r *rand.Rand, many, most int) []int {
	list := make([]int, many)
	for i := range list {
		list[i] = between(r, 0, most)
	}
	return list
}

// with returns a copy of a list with another number at an index.
func with(list []int, index, n int) []int {
	list = slices.Clone(list)
	list[index] = n
	return list
}

// spoil writes over all memory of a list, its spare capacity too.
func spoil(list []int) {
	list = list[:cap(list)]
	for i := range list {
		list[i] = -77
	}
}

func inSet(set, k int) bool {
	return set>>k&1 == 1
}

func sumOf(list []int) int {
	sum := 0
	for _, n := range list {
		sum += n
	}
	return sum
}

// oneIf returns 1 for what is so, and 0 for what is not.
func oneIf(so bool) int {
	if so {
		return 1
	}
	return 0
}
