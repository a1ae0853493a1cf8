package tests

import (
	"math/rand/v2"
	"slices"
	"testing"

	"loop.example/restaurantkitchen/impl"
)

// refusesBadStock checks that a number of lots and wants is -1 for those that are not valid.
func refusesBadStock(t *testing.T, number func(lots []impl.Lot, wants []int) int) {
	t.Helper()
	for name, lots := range badLots() {
		if got := number(lots, []int{1, 2}); got != -1 {
			t.Error(name, got)
		}
	}
	for name, wants := range badWants() {
		if got := number(shelf(), wants); got != -1 {
			t.Error(name, got)
		}
	}
}

// refusesBadLots checks that lots which are not valid are refused.
func refusesBadLots(t *testing.T, refused func(lots []impl.Lot) bool) {
	t.Helper()
	for name, lots := range badLots() {
		if !refused(lots) {
			t.Error(name)
		}
	}
}

// leastBound returns the least UseBound of all days.
func leastBound(lots []impl.Lot, wants []int) int {
	least := impl.UseBound(lots, wants, 0)
	for day := range impl.MaxDays + 1 {
		least = min(least, impl.UseBound(lots, wants, day))
	}
	return least
}

func TestP5NoWayToUseTheStockServesMore(t *testing.T) {
	allowed, refused := 0, 0
	forSeeds(t, 1500, func(t *testing.T, r *rand.Rand) {
		lots, wants := make([]impl.Lot, between(r, 0, 3)), amounts(r, between(r, 0, 3), 3)
		for i := range lots {
			lots[i] = impl.Lot{Many: between(r, 0, 4-len(lots)), Last: between(r, 0, 3)}
		}
		most, reached := impl.UseMost(lots, wants), 0
		eachUse(lots, wants, func(use [][]int) {
			ok := useAllowed(lots, wants, use)
			if impl.UseOk(lots, wants, use) != ok {
				t.Error("allowed", lots, wants, use, ok)
			}
			if !ok {
				refused++
				return
			}
			allowed++
			sum := impl.UseSum(use)
			reached = max(reached, sum)
			if sum > most || sum > leastBound(lots, wants) {
				t.Error("more", lots, wants, use, most)
			}
		})
		if reached != most {
			t.Error("no way serves so much", lots, wants, most, reached)
		}
	})
	if allowed < 1000 || refused < 1000 {
		t.Error("too few ways", allowed, refused)
	}
	refusesBadStock(t, impl.UseMost)
}

func TestP5AnyWayOnAnyStock(t *testing.T) {
	forSeeds(t, 2000, func(t *testing.T, r *rand.Rand) {
		lots, wants := randomLots(r, impl.MaxLot), randomWants(r)
		use, left := make([][]int, len(wants)), slices.Clone(lots)
		for day, want := range wants {
			use[day] = randomTake(r, left, day)
			for i := range left {
				use[day][i] = min(use[day][i], want)
				want -= use[day][i]
				left[i].Many -= use[day][i]
			}
		}
		sum := impl.UseSum(use)
		if !impl.UseOk(lots, wants, use) || sum > impl.UseMost(lots, wants) || sum != unitsOf(lots)-unitsOf(left) {
			t.Error(lots, wants, use)
		}
		for day := range impl.MaxDays + 1 {
			if sum > impl.UseBound(lots, wants, day) {
				t.Error("bound", lots, wants, use, day)
			}
		}
	})
}

func TestP6TheMostThatCanBeServedIsTheLeastBound(t *testing.T) {
	same, more := 0, 0
	forSeeds(t, 2000, func(t *testing.T, r *rand.Rand) {
		lots, wants := randomLots(r, impl.MaxLot), randomWants(r)
		most := impl.UseMost(lots, wants)
		if most != leastBound(lots, wants) {
			t.Error("bound", lots, wants, most, leastBound(lots, wants))
		}
		for i, x := range lots {
			if x.Many == impl.MaxLot {
				continue
			}
			switch impl.UseMost(withLot(lots, i, impl.Lot{Many: x.Many + 1, Last: x.Last}), wants) {
			case most:
				same++
			case most + 1:
				more++
			default:
				t.Error("one unit more", lots, wants, i)
			}
		}
	})
	if same < 100 || more < 100 {
		t.Error("too few of a kind", same, more)
	}
	refusesBadStock(t, func(lots []impl.Lot, wants []int) int { return impl.UseBound(lots, wants, 2) })
}

func TestP7WhoUsesWhatSpoilsFirstWastesLeast(t *testing.T) {
	same, less := 0, 0
	forSeeds(t, 2000, func(t *testing.T, r *rand.Rand) {
		lots, wants := randomLots(r, impl.MaxLot), randomWants(r)
		spoils := impl.SpoilLeast(lots, wants)
		if spoils < 0 || spoils+impl.UseMost(lots, wants) != unitsOf(lots) {
			t.Error("stock", lots, wants, spoils)
		}
		for day := range impl.MaxDays {
			wanted := append(slices.Clone(wants), make([]int, max(0, day+1-len(wants)))...)
			wanted[day]++
			if wanted[day] > impl.MaxWant {
				continue
			}
			switch impl.SpoilLeast(lots, wanted) {
			case spoils:
				same++
			case spoils - 1:
				less++
			default:
				t.Error("one more wanted", lots, wants, day)
			}
		}
	})
	if same < 100 || less < 100 {
		t.Error("too few of a kind", same, less)
	}
	refusesBadStock(t, impl.SpoilLeast)
}

func TestP36LotsStayValidWhenOneIsMissing(t *testing.T) {
	forSeeds(t, 500, func(t *testing.T, r *rand.Rand) {
		lots := randomLots(r, impl.MaxLot)
		if !impl.LotsValid(lots) || len(lots) > 0 && !impl.LotsValid(lots[1:]) {
			t.Error("valid", lots)
		}
		for i, x := range lots {
			for _, bad := range []impl.Lot{{Many: -1, Last: x.Last}, {Many: impl.MaxLot + 1, Last: x.Last}, {Many: x.Many, Last: -1}, {Many: x.Many, Last: impl.MaxDays}} {
				if impl.LotsValid(withLot(lots, i, bad)) {
					t.Error("not valid", lots, i, bad)
				}
			}
		}
	})
	if !impl.LotsValid(fullShelf()) || impl.LotsValid(append(fullShelf(), impl.Lot{})) {
		t.Error("as many as there may be")
	}
}

func TestP37DaysMayBeWithoutWants(t *testing.T) {
	forSeeds(t, 500, func(t *testing.T, r *rand.Rand) {
		wants := randomWants(r)
		if !impl.WantsValid(wants) || !impl.WantsValid(make([]int, len(wants))) {
			t.Error("valid", wants)
		}
		for day := range wants {
			if !impl.WantsValid(with(wants, day, impl.MaxWant)) || impl.WantsValid(with(wants, day, -1)) || impl.WantsValid(with(wants, day, impl.MaxWant+1)) {
				t.Error(wants, day)
			}
		}
	})
	if !impl.WantsValid(make([]int, impl.MaxDays)) || impl.WantsValid(make([]int, impl.MaxDays+1)) {
		t.Error("as many days as there may be")
	}
}

func TestP38StockBecomesLess(t *testing.T) {
	forSeeds(t, 500, func(t *testing.T, r *rand.Rand) {
		lots := randomLots(r, impl.MaxLot)
		if impl.LotsAt(lots, 0) != unitsOf(lots) {
			t.Error("the day 0", lots)
		}
		before := unitsOf(lots)
		for _, day := range anyDays {
			now := impl.LotsAt(lots, day)
			fresh := slices.DeleteFunc(slices.Clone(lots), func(x impl.Lot) bool { return x.Last < day })
			if now > before || now != unitsOf(fresh) {
				t.Error(lots, day, now)
			}
			before = now
		}
		if before != 0 {
			t.Error("behind all days", lots, before)
		}
	})
	refusesBadLots(t, func(lots []impl.Lot) bool { return impl.LotsAt(lots, 0) == -1 })
}

func TestP39LessCanAlwaysBeTaken(t *testing.T) {
	forSeeds(t, 1000, func(t *testing.T, r *rand.Rand) {
		lots := randomLots(r, impl.MaxLot)
		day := anyDays[r.IntN(len(anyDays))]
		take := randomTake(r, lots, day)
		if !impl.TakeOk(lots, day, take) || sumOf(take) > impl.LotsAt(lots, day) {
			t.Error("right", lots, day, take)
		}
		for i, x := range lots {
			most := 0
			if x.Last >= day {
				most = x.Many
			}
			if !impl.TakeOk(lots, day, with(take, i, 0)) || !impl.TakeOk(lots, day, with(take, i, most)) {
				t.Error("none or all of one", lots, day, take, i)
			}
			if impl.TakeOk(lots, day, with(take, i, -1)) || impl.TakeOk(lots, day, with(take, i, most+1)) || impl.TakeOk(lots, day, take[:i]) {
				t.Error("wrong", lots, day, take, i)
			}
		}
		if impl.TakeOk(lots, day, append(take, 0)) {
			t.Error("one too many", lots, day, take)
		}
	})
	refusesBadLots(t, func(lots []impl.Lot) bool { return !impl.TakeOk(lots, 0, make([]int, len(lots))) })
}

func TestP40WhatIsTakenIsGone(t *testing.T) {
	forSeeds(t, 1000, func(t *testing.T, r *rand.Rand) {
		lots := randomLots(r, impl.MaxLot)
		day := anyDays[r.IntN(len(anyDays))]
		take := randomTake(r, lots, day)
		left, ok := impl.TakeDo(lots, day, take)
		if !ok || len(left) != len(lots) || !impl.LotsValid(left) || unitsOf(left) != unitsOf(lots)-sumOf(take) {
			t.Error("left", lots, day, take, left, ok)
			return
		}
		for i, x := range left {
			if x.Last != lots[i].Last || x.Many != lots[i].Many-take[i] {
				t.Error("a lot", lots, take, left)
			}
			if got, ok := impl.TakeDo(lots, day, with(take, i, lots[i].Many+1)); ok || got != nil {
				t.Error("too much", lots, take, i)
			}
		}
	})
	refusesBadLots(t, func(lots []impl.Lot) bool {
		left, ok := impl.TakeDo(lots, 0, make([]int, len(lots)))
		return !ok && left == nil
	})
}

func TestP41WhatSpoilsFirstIsTakenFirst(t *testing.T) {
	forSeeds(t, 2000, func(t *testing.T, r *rand.Rand) {
		lots, want := randomLots(r, impl.MaxLot), between(r, 0, []int{9, impl.MaxWant}[r.IntN(2)])
		day := anyDays[r.IntN(len(anyDays))]
		take := impl.TakeFirst(lots, day, want)
		if !impl.TakeOk(lots, day, take) || sumOf(take) != min(want, impl.LotsAt(lots, day)) {
			t.Error("right", lots, day, want, take)
			return
		}
		for i, x := range lots {
			for k, y := range lots {
				before := x.Last < y.Last || x.Last == y.Last && i < k
				if before && x.Last >= day && take[i] < x.Many && take[k] > 0 {
					t.Error("something is left of an earlier one", lots, day, want, take, i, k)
				}
			}
		}
	})
	refusesBadLots(t, func(lots []impl.Lot) bool { return impl.TakeFirst(lots, 0, 1) == nil })
	if impl.TakeFirst(shelf(), 0, -1) != nil || impl.TakeFirst(shelf(), 0, impl.MaxWant+1) != nil || impl.TakeFirst(shelf(), 0, impl.MaxWant) == nil {
		t.Error("wanted")
	}
}

func TestP42AllDaysAreAllDays(t *testing.T) {
	forSeeds(t, 500, func(t *testing.T, r *rand.Rand) {
		use := make([][]int, between(r, 0, 9))
		for day := range use {
			use[day] = amounts(r, between(r, 0, 9), 100)
			for i := range use[day] {
				use[day][i] -= 30
			}
		}
		for len(use) > 0 {
			if impl.UseSum(use)-impl.UseSum(use[1:]) != sumOf(use[0]) {
				t.Error(use)
			}
			use = use[1:]
		}
		if impl.UseSum(use) != 0 || impl.UseSum(nil) != 0 {
			t.Error("no days")
		}
	})
}

func TestP43NobodyGoesWithoutWhileThereIsSomething(t *testing.T) {
	short := 0
	forSeeds(t, 2000, func(t *testing.T, r *rand.Rand) {
		lots, wants := randomLots(r, impl.MaxLot), randomWants(r)
		use := impl.UseFirst(lots, wants)
		if len(use) != len(wants) || !impl.UseOk(lots, wants, use) || !useAllowed(lots, wants, use) {
			t.Error("no use", lots, wants, use)
			return
		}
		left := lots
		for day, take := range use {
			if !slices.Equal(take, impl.TakeFirst(left, day, wants[day])) {
				t.Error("not the first ones", lots, wants, use, day)
			}
			left, _ = impl.TakeDo(left, day, take)
			if sumOf(take) != wants[day] {
				short++
				if impl.LotsAt(left, day) != 0 {
					t.Error("goes without", lots, wants, use, day)
				}
			}
		}
	})
	if short < 100 {
		t.Error("too few days on which too little is there", short)
	}
	refusesBadLots(t, func(lots []impl.Lot) bool { return impl.UseFirst(lots, []int{1, 2}) == nil })
	for name, wants := range badWants() {
		if impl.UseFirst(shelf(), wants) != nil {
			t.Error(name)
		}
	}
}

func TestP44BoundsAreOfTwoKinds(t *testing.T) {
	forSeeds(t, 1000, func(t *testing.T, r *rand.Rand) {
		lots, wants := randomLots(r, impl.MaxLot), randomWants(r)
		if impl.UseBound(lots, wants, 0) != unitsOf(lots) || impl.UseBound(lots, wants, impl.MaxDays) != sumOf(wants) {
			t.Error("the first and the last", lots, wants)
		}
		for day := range impl.MaxDays + 1 {
			bound := impl.LotsAt(lots, day)
			for before, want := range wants {
				if before < day {
					bound += want
				}
			}
			if got := impl.UseBound(lots, wants, day); got != bound {
				t.Error(lots, wants, day, got, bound)
			}
		}
		if impl.UseBound(lots, wants, -1) != -1 || impl.UseBound(lots, wants, impl.MaxDays+1) != -1 {
			t.Error("no such day", lots, wants)
		}
	})
	for day := range impl.MaxDays + 1 {
		refusesBadStock(t, func(lots []impl.Lot, wants []int) int { return impl.UseBound(lots, wants, day) })
	}
}

func TestP45FreshUnitsMakeUpForWhatLacks(t *testing.T) {
	made := 0
	forSeeds(t, 2000, func(t *testing.T, r *rand.Rand) {
		lots, wants := randomLots(r, impl.MaxLot), randomWants(r)
		lack := impl.LackLeast(lots, wants)
		if lack < 0 || lack+impl.UseMost(lots, wants) != sumOf(wants) {
			t.Error("wanted", lots, wants, lack)
		}
		if lack == 0 || lack > impl.MaxLot || len(lots) == impl.MaxLots {
			return
		}
		made++
		fresh := append(slices.Clone(lots), impl.Lot{Many: lack, Last: impl.MaxDays - 1})
		if impl.LackLeast(fresh, wants) != 0 {
			t.Error("lacks", lots, wants, lack)
		}
		fresh[len(lots)].Many--
		if impl.LackLeast(fresh, wants) != 1 {
			t.Error("one less", lots, wants, lack)
		}
	})
	if made < 100 {
		t.Error("too few", made)
	}
	refusesBadStock(t, impl.LackLeast)
}
