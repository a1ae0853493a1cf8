package tests

import (
	"math/big"
	"math/rand/v2"
	"slices"
	"testing"

	"loop.example/restaurantkitchen/impl"
)

func TestP1AllergensAreNeverLost(t *testing.T) {
	forSeeds(t, 500, func(t *testing.T, r *rand.Rand) {
		list := randomItems(r, impl.MaxItems)
		clean := copyItems(list)
		for i := range clean {
			clean[i].Marks = 0
		}
		for i := range list {
			marks, all := impl.MarksOf(list, i), 0
			for k := range list {
				if inSet(impl.UsesOf(list, i), k) && impl.MarksOf(list, k)&^marks != 0 {
					t.Error("lost", list, i, k)
				}
				if usesAlso(list, i, k) {
					all |= list[k].Marks
				}
			}
			if marks != all || impl.MarksOf(clean, i) != 0 {
				t.Error("marks", list, i, marks, all)
			}
		}
	})
	for name, list := range badLists() {
		if impl.MarksOf(list, 0) != -1 {
			t.Error(name)
		}
	}
}

// eachRuns calls a check with every list of runs in which each is at most two more than in a given one.
func eachRuns(runs []int, check func(runs []int)) {
	try := make([]int, len(runs))
	var fill func(i int)
	fill = func(i int) {
		if i == len(runs) {
			check(try)
			return
		}
		for try[i] = 0; try[i] <= runs[i]+2; try[i]++ {
			fill(i + 1)
		}
	}
	fill(0)
}

func TestP2NoPlanHasFewerRunsOfAnything(t *testing.T) {
	found := 0
	forSeeds(t, 1000, func(t *testing.T, r *rand.Rand) {
		list := randomItems(r, 3)
		for i := range list {
			for k := range list[i].Parts {
				list[i].Parts[k].Many = between(r, 1, 2)
			}
		}
		want, stock := amounts(r, len(list), 3), amounts(r, len(list), 3)
		least, ok := impl.PlanLeast(list, want, stock)
		if !ok || slices.ContainsFunc(least.Left, func(n int) bool { return n < 0 }) {
			t.Error("least", list, want, stock, least, ok)
		}
		eachRuns(least.Runs, func(runs []int) {
			left := leftBy(list, want, stock, runs)
			enough := !slices.ContainsFunc(left, func(n int) bool { return n < 0 })
			if impl.PlanOk(list, want, stock, impl.Plan{Runs: runs, Left: left}) != enough {
				t.Error("plan", list, want, stock, runs, left)
			}
			for i := range runs {
				if enough && runs[i] < least.Runs[i] {
					t.Error("fewer", list, want, stock, runs, least)
				}
			}
			found++
		})
	})
	if found < 10000 {
		t.Error("too few plans", found)
	}
}

func TestP3WholeBatchesAreNeverCheaper(t *testing.T) {
	forSeeds(t, 1000, func(t *testing.T, r *rand.Rand) {
		list := randomItems(r, impl.MaxItems)
		prices := amounts(r, len(list), impl.MaxPrice)
		nothing := make([]int, len(list))
		for i, x := range list {
			unit, ok := impl.UnitCost(list, prices, i)
			if !ok || unit.Den < 1 || big.NewRat(int64(unit.Num), int64(unit.Den)).Cmp(exactCost(list, prices, i)) != 0 {
				t.Error("unit", list, prices, i, unit, ok)
				return
			}
			if lowest := exactCost(list, prices, i); !lowest.Num().IsInt64() || lowest.Num().Int64() != int64(unit.Num) || lowest.Denom().Int64() != int64(unit.Den) {
				t.Error("lowest terms", unit, lowest)
			}
			if x.Yield == 0 && unit != (impl.Frac{Num: prices[i], Den: 1}) {
				t.Error("bought", unit)
			}
			many := between(r, 0, impl.MaxWant)
			p, ok := impl.PlanLeast(list, with(nothing, i, many), nothing)
			if cost := impl.PlanCost(list, prices, p); !ok || cost*unit.Den < many*unit.Num {
				t.Error("cheaper", list, prices, i, many, cost, unit)
			}
		}
	})
}

func TestP4WhatWasPlannedCanBeMade(t *testing.T) {
	forSeeds(t, 1000, func(t *testing.T, r *rand.Rand) {
		list := randomItems(r, impl.MaxItems)
		want, stock := amounts(r, len(list), impl.MaxWant), amounts(r, len(list), impl.MaxWant)
		p, ok := impl.PlanLeast(list, want, stock)
		now, made := impl.MakeRun(list, stock, p)
		if !ok || !made {
			t.Error("not made", list, want, stock, p)
			return
		}
		for i := range list {
			if now[i] != want[i]+p.Left[i] {
				t.Error("not there", list, want, stock, p, now)
			}
		}
		runs := amounts(r, len(list), 8)
		now, made = impl.MakeRun(list, stock, impl.Plan{Runs: runs})
		byHand, can := makeByHand(list, stock, runs)
		if made != can || !slices.Equal(now, byHand) {
			t.Error("whatever is made", list, stock, runs, now, made, byHand, can)
		}
	})
}

// makeByHand makes one batch after the other, each only if its parts are there.
func makeByHand(list []impl.Item, stock, runs []int) ([]int, bool) {
	now := slices.Clone(stock)
	for i, x := range list {
		for range runs[i] {
			for _, p := range x.Parts {
				if now[p.Of] < p.Many {
					return nil, false
				}
				now[p.Of] -= p.Many
			}
			now[i] += max(x.Yield, 1)
		}
	}
	return now, true
}

func TestP4TheTallestPlanCanBeMade(t *testing.T) {
	want, stock := slices.Repeat([]int{impl.MaxWant}, impl.MaxItems), make([]int, impl.MaxItems)
	p, ok := impl.PlanLeast(tallest(), want, stock)
	now, made := impl.MakeRun(tallest(), stock, p)
	if !ok || !made || !slices.Equal(now, want) || !impl.PlanOk(tallest(), want, stock, p) {
		t.Error(p, ok, now, made)
	}
}

func TestP28ItemsCanBeMissingBehindTheOthers(t *testing.T) {
	forSeeds(t, 300, func(t *testing.T, r *rand.Rand) {
		list := randomItems(r, impl.MaxItems)
		if !impl.ItemsValid(list) {
			t.Error("valid", list)
		}
		for many := range len(list) {
			self := impl.Item{Yield: between(r, 1, impl.MaxMany), Parts: []impl.Part{{Of: many, Many: 1}}}
			if !impl.ItemsValid(list[:many]) || impl.ItemsValid(append(copyItems(list[:many]), self)) {
				t.Error(list, many)
			}
		}
	})
}

func TestP29TextsOfItemsAreRead(t *testing.T) {
	forSeeds(t, 1000, func(t *testing.T, r *rand.Rand) {
		x := randomItem(r, between(r, 0, impl.MaxItems-1))
		s := impl.ItemText(x)
		if got, ok := impl.ReadItem(s); s == "" || !ok || !sameItem(got, x) {
			t.Error(x, s, got, ok)
		}
	})
}

func TestP30ReadTextsAreCanonical(t *testing.T) {
	read := 0
	check := func(s string) {
		x, ok := impl.ReadItem(s)
		if ok && impl.ItemText(x) != s || !ok && !sameItem(x, impl.Item{}) {
			t.Errorf("%q: %v", s, x)
		}
		if ok {
			read++
		}
	}
	forSeeds(t, 2000, func(t *testing.T, r *rand.Rand) {
		s := impl.ItemText(randomItem(r, impl.MaxItems-1))
		if _, ok := impl.ReadItem(s + "!"); ok {
			t.Errorf("%q", s+"!")
		}
		check(s)
		at, b := r.IntN(len(s)), "0123456789=!*,+- \n\xff"[r.IntN(19)]
		check(s[:at] + s[at+1:])
		check(s[:at] + string(rune(b)) + s[at:])
		check(s[:at] + string([]byte{b}) + s[at+1:])
	})
	if read < 2000 {
		t.Error("too few texts", read)
	}
	for _, s := range badTexts {
		check(s)
	}
}

func TestP31WhatIsUsedByWhatIsUsedIsUsed(t *testing.T) {
	forSeeds(t, 500, func(t *testing.T, r *rand.Rand) {
		list := randomItems(r, impl.MaxItems)
		for i := range list {
			uses := impl.UsesOf(list, i)
			if !inSet(uses, i) || uses>>(i+1) != 0 {
				t.Error("itself, and none behind it", list, i, uses)
			}
			for k := range list {
				if inSet(uses, k) && impl.UsesOf(list, k)&^uses != 0 || inSet(uses, k) != usesAlso(list, i, k) {
					t.Error(list, i, k, uses)
				}
			}
		}
		if impl.UsesOf(list, len(list)) != -1 || impl.UsesOf(list, -1) != -1 {
			t.Error("no such item", list)
		}
	})
}

func TestP32WhoAvoidsNothingCanHaveEverythingThatIsMade(t *testing.T) {
	forSeeds(t, 200, func(t *testing.T, r *rand.Rand) {
		list := randomItems(r, impl.MaxItems)
		for avoid := range impl.MaxMark + 1 {
			var want []int
			for i, x := range list {
				if x.Yield > 0 && (avoid == 0 || impl.MarksOf(list, i)&avoid == 0) {
					want = append(want, i)
				}
			}
			if got := impl.FreeOf(list, avoid); !slices.Equal(got, want) {
				t.Error(list, avoid, got, want)
			}
		}
		if impl.FreeOf(list, -1) != nil || impl.FreeOf(list, impl.MaxMark+1) != nil {
			t.Error("no such set", list)
		}
	})
}

func TestP33TheLeastPlanIsOne(t *testing.T) {
	forSeeds(t, 1000, func(t *testing.T, r *rand.Rand) {
		list := randomItems(r, impl.MaxItems)
		want, stock := amounts(r, len(list), impl.MaxWant), amounts(r, len(list), impl.MaxWant)
		p, ok := impl.PlanLeast(list, want, stock)
		if !ok || !impl.PlanOk(list, want, stock, p) || !slices.Equal(p.Left, leftBy(list, want, stock, p.Runs)) {
			t.Error("no plan", list, want, stock, p, ok)
			return
		}
		for i, x := range list {
			if p.Runs[i] > 0 && p.Left[i] >= max(x.Yield, 1) {
				t.Error("a run too many", list, want, stock, p, i)
			}
		}
	})
}

func TestP34EverythingHasAPrice(t *testing.T) {
	forSeeds(t, 200, func(t *testing.T, r *rand.Rand) {
		list := randomItems(r, impl.MaxItems)
		prices := amounts(r, len(list), impl.MaxPrice)
		if !impl.PricesValid(list, prices) || !impl.PricesValid(list, make([]int, len(list))) {
			t.Error("valid", list, prices)
		}
		if impl.PricesValid(list, append(prices, 0)) {
			t.Error("one price more", list, prices)
		}
		for name, bad := range badAmounts(len(list), impl.MaxPrice) {
			if impl.PricesValid(list, bad) {
				t.Error(name, list)
			}
		}
	})
}

func TestP35CostsAddUp(t *testing.T) {
	forSeeds(t, 500, func(t *testing.T, r *rand.Rand) {
		list := randomItems(r, impl.MaxItems)
		prices, p := amounts(r, len(list), impl.MaxPrice/2), impl.Plan{Runs: amounts(r, len(list), maxRuns-1)}
		doubled := slices.Clone(prices)
		for i := range doubled {
			doubled[i] *= 2
		}
		cost := impl.PlanCost(list, prices, p)
		if cost < 0 || impl.PlanCost(list, doubled, p) != 2*cost {
			t.Error("doubled", list, prices, p, cost)
		}
		for i, x := range list {
			more := 0
			if x.Yield == 0 {
				more = prices[i]
			}
			if impl.PlanCost(list, prices, impl.Plan{Runs: with(p.Runs, i, p.Runs[i]+1)}) != cost+more {
				t.Error("one run more", list, prices, p, i)
			}
		}
		if impl.PlanCost(list, prices, impl.Plan{Runs: make([]int, len(list))}) != 0 {
			t.Error("no runs", list, prices)
		}
	})
}
