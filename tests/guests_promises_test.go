package tests

import (
	"math"
	"math/rand/v2"
	"slices"
	"testing"

	"loop.example/restaurantkitchen/impl"
)

// refusesBadMenus checks that menus which are not valid are refused.
func refusesBadMenus(t *testing.T, refused func(guests int, menu []int) bool) {
	t.Helper()
	for name, x := range badMenus() {
		if !refused(x.guests, x.sets) {
			t.Error(name)
		}
	}
}

// refusesBadQuarrels checks that quarrels which are not valid are refused.
func refusesBadQuarrels(t *testing.T, refused func(guests int, quarrels []int) bool) {
	t.Helper()
	for name, x := range badQuarrels() {
		if !refused(x.guests, x.sets) {
			t.Error(name)
		}
	}
}

// forMenus runs a check with menus that are written down, with all of few dishes for few guests, and with random ones for up to as many as there may be.
func forMenus(t *testing.T, check func(t *testing.T, guests int, menu []int)) {
	t.Helper()
	for _, x := range menus {
		check(t, x.guests, x.sets)
	}
	eachMenu(func(guests int, menu []int) { check(t, guests, menu) })
	forSeeds(t, 1000, func(t *testing.T, r *rand.Rand) {
		guests := between(r, 4, impl.MaxGuests)
		check(t, guests, randomMenu(r, guests, impl.MaxMenu))
	})
}

// forQuarrels runs a check with quarrels that are written down, with all of few guests, and with random ones of as many as there may be.
func forQuarrels(t *testing.T, check func(t *testing.T, guests int, quarrels []int)) {
	t.Helper()
	for _, x := range quarrelling {
		check(t, x.guests, x.sets)
	}
	eachQuarrels(5, func(guests int, quarrels []int) { check(t, guests, quarrels) })
	forSeeds(t, 1000, func(t *testing.T, r *rand.Rand) {
		check(t, impl.MaxGuests, randomQuarrels(r, impl.MaxGuests))
	})
}

func TestP20NoFewerDishesFeedEverybody(t *testing.T) {
	more, none := 0, 0
	forMenus(t, func(t *testing.T, guests int, menu []int) {
		least, apart, all := impl.DishesLeast(guests, menu), impl.ApartMost(guests, menu), 1<<len(menu)-1
		many, fed := impl.DishesMany(least), false
		for dishes := range all + 1 {
			feeds := impl.FeedsAll(guests, menu, dishes)
			if feeds != feedEach(guests, menu, dishes) {
				t.Error("feeds", guests, menu, dishes, feeds)
			}
			size := len(membersOf(dishes))
			if feeds && (least < 0 || size < many || size < apart || !impl.FeedsAll(guests, menu, all)) {
				t.Error("fewer", guests, menu, dishes, least, apart)
			}
			fed = fed || feeds && size == many
			more += oneIf(feeds && size > many)
		}
		if fed != (least >= 0) || !fed && least != -1 {
			t.Error("so few do not feed all", guests, menu, least)
		}
		none += oneIf(!fed)
	})
	if more < 1000 || none < 1000 {
		t.Error("too few of a kind", more, none)
	}
	refusesBadMenus(t, func(guests int, menu []int) bool {
		return impl.DishesLeast(guests, menu) == -1 && impl.ApartMost(guests, menu) == -1 && !impl.FeedsAll(guests, menu, 0) && !impl.FeedsAll(guests, menu, 1<<len(menu)-1)
	})
}

func TestP21TheDishForTheMostFirstIsNearlyBest(t *testing.T) {
	worse := 0
	forMenus(t, func(t *testing.T, guests int, menu []int) {
		list, all := impl.DishesGreedy(guests, menu), 1<<len(menu)-1
		dishes := 0
		for i, dish := range list {
			if dish < 0 || dish >= len(menu) || slices.Contains(list[:i], dish) {
				t.Error("no such dish, or twice", guests, menu, list)
				return
			}
			dishes += 1 << dish
		}
		if eatSome(guests, menu, dishes) != eatSome(guests, menu, all) {
			t.Error("who eats anything", guests, menu, list)
		}
		gains := gainsOf(guests, menu, list)
		for i, gain := range gains {
			if gain < 1 || i > 0 && gain > gains[i-1] {
				t.Error("more behind", guests, menu, list, gains)
			}
		}
		if !slices.Equal(list, dishesForMost(guests, menu)) {
			t.Error("the dish for the most", guests, menu, list)
		}
		if !feedEach(guests, menu, all) {
			return
		}
		fewest := len(membersOf(leastDishes(guests, menu)))
		if 20*len(list) > 49*fewest {
			t.Error("too many", guests, menu, list, fewest)
		}
		worse += oneIf(len(list) > fewest)
	})
	if worse < 10 {
		t.Error("too few menus of which fewer are enough", worse)
	}
	refusesBadMenus(t, func(guests int, menu []int) bool { return impl.DishesGreedy(guests, menu) == nil })
}

func TestP22GuestsWhoAreApartNeedADishEach(t *testing.T) {
	equal := 0
	forMenus(t, func(t *testing.T, guests int, menu []int) {
		least := impl.DishesMany(impl.DishesLeast(guests, menu))
		for set := range 1 << guests {
			some := membersOf(set)
			apart := impl.ApartValid(guests, menu, some)
			if apart != areApart(guests, menu, some) {
				t.Error("apart", guests, menu, some, apart)
			}
			if apart && least >= 0 && len(some) > least {
				t.Error("more", guests, menu, some, least)
			}
		}
		if least >= 0 && impl.ApartMost(guests, menu) > least {
			t.Error("most", guests, menu, least)
		}
		equal += oneIf(least > 1 && impl.ApartMost(guests, menu) == least)
	})
	if equal < 100 {
		t.Error("too few menus that need just as many dishes", equal)
	}
	refusesBadMenus(t, func(guests int, menu []int) bool {
		return !impl.ApartValid(guests, menu, nil) && !impl.ApartValid(guests, menu, []int{0}) && impl.ApartMost(guests, menu) == -1
	})
}

// TestP22EveryListOfGuests checks lists that are not ascending, have guests twice, or some who are not there, too.
func TestP22EveryListOfGuests(t *testing.T) {
	forSeeds(t, 100, func(t *testing.T, r *rand.Rand) {
		guests := between(r, 0, 3)
		menu := randomMenu(r, guests, impl.MaxMenu)
		for many := range 5 {
			eachList(many, guests+1, func(list []int) {
				some := slices.Clone(list)
				for i := range some {
					some[i]--
				}
				if got := impl.ApartValid(guests, menu, some); got != areApart(guests, menu, some) {
					t.Error(guests, menu, some, got)
				}
			})
		}
	})
}

func TestP23NoFewerTablesAreEnough(t *testing.T) {
	peace, quarrel := 0, 0
	check := func(t *testing.T, guests int, quarrels []int, seats []int) {
		ok := impl.SeatsOk(guests, quarrels, seats)
		if ok != inPeace(quarrels, seats) {
			t.Error("in peace", guests, quarrels, seats, ok)
		}
		many := impl.SeatsMany(seats)
		if ok && (many < impl.SeatsLeast(guests, quarrels) || many < impl.CliqueMost(guests, quarrels)) {
			t.Error("fewer", guests, quarrels, seats, many)
		}
		peace += oneIf(ok)
		quarrel += oneIf(!ok)
	}
	eachQuarrels(4, func(guests int, quarrels []int) {
		eachList(guests, max(0, guests-1), func(seats []int) { check(t, guests, quarrels, seats) })
	})
	forSeeds(t, 3000, func(t *testing.T, r *rand.Rand) {
		quarrels := randomQuarrels(r, between(r, 5, impl.MaxGuests))
		check(t, len(quarrels), quarrels, amounts(r, len(quarrels), len(quarrels)-1))
	})
	if peace < 1000 || quarrel < 1000 {
		t.Error("too few of a kind", peace, quarrel)
	}
	refusesBadQuarrels(t, func(guests int, quarrels []int) bool {
		return !impl.SeatsOk(guests, quarrels, upTo(len(quarrels))) && impl.SeatsLeast(guests, quarrels) == -1 && impl.CliqueMost(guests, quarrels) == -1
	})
}

// TestP23SoFewTablesAreEnough checks the least number of tables, and the most who quarrel, of all guests there may be.
func TestP23SoFewTablesAreEnough(t *testing.T) {
	more := 0
	forQuarrels(t, func(t *testing.T, guests int, quarrels []int) {
		tables, clique := impl.SeatsLeast(guests, quarrels), impl.CliqueMost(guests, quarrels)
		if tables != leastTables(guests, quarrels) {
			t.Error("tables", guests, quarrels, tables)
		}
		if clique > tables {
			t.Error("clique", guests, quarrels, tables, clique)
		}
		more += oneIf(tables > clique)
	})
	if more < 10 {
		t.Error("too few that need more tables than there are who all quarrel", more)
	}
}

func TestP74DishesMayBeEatenByNobody(t *testing.T) {
	forMenus(t, func(t *testing.T, guests int, menu []int) {
		if !impl.MenuValid(guests, menu) {
			t.Error("valid", guests, menu)
		}
		for place := range len(menu) + 1 {
			if got := impl.MenuValid(guests, slices.Insert(slices.Clone(menu), place, 0)); got != (len(menu) < impl.MaxMenu) {
				t.Error("for nobody", guests, menu, place, got)
			}
			for _, set := range []int{1 << guests, 1<<guests + 1, -1, math.MinInt, math.MaxInt} {
				if impl.MenuValid(guests, slices.Insert(slices.Clone(menu), place, set)) {
					t.Error("for who is not there", guests, menu, place, set)
				}
			}
		}
		for i := range menu {
			if impl.MenuValid(guests, with(menu, i, 1<<guests)) || impl.MenuValid(guests, with(menu, i, -1)) || !impl.MenuValid(guests, with(menu, i, 0)) {
				t.Error("another dish", guests, menu, i)
			}
		}
		for _, none := range badGuests {
			if impl.MenuValid(none, menu) {
				t.Error("guests", none, menu)
			}
		}
	})
	refusesBadMenus(t, func(guests int, menu []int) bool { return !impl.MenuValid(guests, menu) })
}

func TestP75MoreDishesFeedMore(t *testing.T) {
	forMenus(t, func(t *testing.T, guests int, menu []int) {
		for dishes := range 1 << len(menu) {
			fed := impl.FedBy(guests, menu, dishes)
			if fed != eatSome(guests, menu, dishes) {
				t.Error("fed", guests, menu, dishes, fed)
			}
			for i, eaters := range menu {
				if inSet(dishes, i) && eaters&^fed != 0 {
					t.Error("of each dish", guests, menu, dishes, i)
				}
				if fed&^impl.FedBy(guests, menu, dishes|1<<i) != 0 {
					t.Error("a further dish", guests, menu, dishes, i)
				}
			}
		}
		for _, none := range []int{1 << len(menu), 1<<len(menu) + 1, -1, math.MinInt, math.MaxInt} {
			if fed := impl.FedBy(guests, menu, none); fed != -1 {
				t.Error("no such dishes", guests, menu, none, fed)
			}
		}
	})
	refusesBadMenus(t, func(guests int, menu []int) bool {
		return impl.FedBy(guests, menu, 0) == -1 && impl.FedBy(guests, menu, 1) == -1 && impl.FedBy(guests, menu, 1<<len(menu)-1) == -1
	})
}

func TestP76TheFewestDishesFeedEverybody(t *testing.T) {
	none := 0
	forMenus(t, func(t *testing.T, guests int, menu []int) {
		dishes := impl.DishesLeast(guests, menu)
		if dishes != leastDishes(guests, menu) {
			t.Error("the least sum", guests, menu, dishes)
		}
		if dishes == -1 {
			if impl.FeedsAll(guests, menu, 1<<len(menu)-1) {
				t.Error("none", guests, menu)
			}
			none++
			return
		}
		if !impl.FeedsAll(guests, menu, dishes) {
			t.Error("does not feed all", guests, menu, dishes)
		}
		for _, i := range membersOf(dishes) {
			if impl.FeedsAll(guests, menu, dishes-1<<i) || inSet(dishes, i) && menu[i] == 0 {
				t.Error("one too many", guests, menu, dishes, i)
			}
		}
	})
	if none < 1000 {
		t.Error("too few menus that do not feed all", none)
	}
	refusesBadMenus(t, func(guests int, menu []int) bool { return impl.DishesLeast(guests, menu) == -1 })
}

func TestP77DishesAreCounted(t *testing.T) {
	if impl.DishesMany(0) != 0 {
		t.Error("no dishes", impl.DishesMany(0))
	}
	for place := range impl.MaxMenu {
		for dishes := range 1 << place {
			if many := impl.DishesMany(dishes); impl.DishesMany(dishes+1<<place) != many+1 || many != len(membersOf(dishes)) {
				t.Error("a further dish", dishes, place, many)
			}
		}
	}
	for place := impl.MaxMenu; place < 63; place++ {
		for _, dishes := range []int{0, 1, 5, 1 << (place - 1), 1<<place - 1} {
			if impl.DishesMany(dishes+1<<place) != impl.DishesMany(dishes)+1 {
				t.Error("far behind", dishes, place)
			}
		}
	}
	for _, none := range []int{-1, -2, -63, -64, math.MinInt, math.MinInt + 1} {
		if many := impl.DishesMany(none); many != -1 {
			t.Error("less than none", none, many)
		}
	}
}

func TestP78FewerGuestsAreApartToo(t *testing.T) {
	forMenus(t, func(t *testing.T, guests int, menu []int) {
		for set := range 1 << guests {
			some := membersOf(set)
			apart := impl.ApartValid(guests, menu, some)
			if apart && len(some) > 0 && !impl.ApartValid(guests, menu, some[1:]) {
				t.Error("without the first one", guests, menu, some)
			}
			for _, eaters := range menu {
				if apart && len(membersOf(eaters&set)) > 1 {
					t.Error("a dish for two", guests, menu, some, eaters)
				}
			}
			for _, none := range []int{-1, guests, math.MinInt, math.MaxInt} {
				if impl.ApartValid(guests, menu, append([]int{none}, some...)) || impl.ApartValid(guests, menu, append(slices.Clone(some), none)) {
					t.Error("who is not there", guests, menu, some, none)
				}
			}
			if len(some) > 1 && impl.ApartValid(guests, menu, reversed(some)) || len(some) > 0 && impl.ApartValid(guests, menu, append(slices.Clone(some), some[len(some)-1])) {
				t.Error("not ascending", guests, menu, some)
			}
		}
		if !impl.ApartValid(guests, menu, nil) {
			t.Error("nobody", guests, menu)
		}
		most := mostWho(guests, func(one, other int) bool { return !eatSame(menu, one, other) })
		if got := impl.ApartMost(guests, menu); got != most {
			t.Error("most", guests, menu, got, most)
		}
	})
	refusesBadMenus(t, func(guests int, menu []int) bool {
		return !impl.ApartValid(guests, menu, nil) && impl.ApartMost(guests, menu) == -1
	})
}

func TestP79QuarrelsCanBeMadeUp(t *testing.T) {
	for guests := range impl.MaxGuests + 1 {
		if !impl.QuarrelsValid(guests, make([]int, guests)) || impl.QuarrelsValid(guests, make([]int, guests+1)) {
			t.Error("without quarrels", guests)
		}
	}
	forQuarrels(t, func(t *testing.T, guests int, quarrels []int) {
		if !impl.QuarrelsValid(guests, quarrels) {
			t.Error("valid", guests, quarrels)
		}
		for i, set := range quarrels {
			for _, other := range []int{set | 1<<i, set | 1<<guests, set | math.MinInt, set - 1<<guests, -1} {
				if impl.QuarrelsValid(guests, with(quarrels, i, other)) {
					t.Error("with oneself, or who is not there", guests, quarrels, i, other)
				}
			}
			for k := range guests {
				if k != i && impl.QuarrelsValid(guests, with(quarrels, i, set^1<<k)) {
					t.Error("in one direction", guests, quarrels, i, k)
				}
				if k != i && !impl.QuarrelsValid(guests, withoutQuarrel(quarrels, i, k)) {
					t.Error("made up", guests, quarrels, i, k)
				}
			}
		}
		for _, none := range append([]int{guests - 1, guests + 1}, badGuests...) {
			if impl.QuarrelsValid(none, quarrels) {
				t.Error("guests", none, quarrels)
			}
		}
	})
	refusesBadQuarrels(t, func(guests int, quarrels []int) bool { return !impl.QuarrelsValid(guests, quarrels) })
}

func TestP79EveryListOfSets(t *testing.T) {
	ok := 0
	for guests := range 4 {
		for many := range 4 {
			eachList(many, everybody(guests)+2, func(list []int) {
				quarrels := slices.Clone(list)
				for i := range quarrels {
					quarrels[i]--
				}
				valid := mayQuarrel(guests, quarrels)
				if impl.QuarrelsValid(guests, quarrels) != valid {
					t.Error(guests, quarrels, valid)
				}
				ok += oneIf(valid)
			})
		}
	}
	if ok != 1+1+2+8 {
		t.Error("another number of them", ok)
	}
}

func TestP80TablesAreCountedOnce(t *testing.T) {
	forSeeds(t, 2000, func(t *testing.T, r *rand.Rand) {
		seats := amounts(r, between(r, 0, 9), between(r, 0, 8))
		for i := range seats {
			seats[i] -= between(r, 0, 1) * 3
		}
		many := impl.SeatsMany(seats)
		if many > len(seats) {
			t.Error("more than guests", seats, many)
		}
		for _, table := range seats {
			if impl.SeatsMany(append(slices.Clone(seats), table)) != many || impl.SeatsMany(append([]int{table}, seats...)) != many {
				t.Error("once more", seats, many, table)
			}
		}
		for _, table := range []int{-4, 9, math.MinInt, math.MaxInt} {
			if impl.SeatsMany(append(slices.Clone(seats), table)) != many+1 || impl.SeatsMany(append([]int{table}, seats...)) != many+1 {
				t.Error("another table", seats, many, table)
			}
		}
	})
	if impl.SeatsMany(nil) != 0 || impl.SeatsMany([]int{}) != 0 {
		t.Error("no tables")
	}
}

func TestP81NobodySitsWithWhomItDoesNotSit(t *testing.T) {
	more := 0
	forQuarrels(t, func(t *testing.T, guests int, quarrels []int) {
		seats := impl.SeatsFirst(guests, quarrels)
		if len(seats) != guests || !impl.SeatsOk(guests, quarrels, seats) || !inPeace(quarrels, seats) {
			t.Error("in peace", guests, quarrels, seats)
			return
		}
		most := 0
		for _, set := range quarrels {
			most = max(most, len(membersOf(set)))
		}
		if impl.SeatsMany(seats) > most+1 {
			t.Error("too many tables", guests, quarrels, seats)
		}
		if !slices.Equal(seats, firstTables(quarrels)) {
			t.Error("the first table", guests, quarrels, seats)
		}
		more += oneIf(impl.SeatsMany(seats) > leastTables(guests, quarrels))
	})
	if more < 10 {
		t.Error("too few that sit at more tables than are needed", more)
	}
	refusesBadQuarrels(t, func(guests int, quarrels []int) bool { return impl.SeatsFirst(guests, quarrels) == nil })
}

// TestP81EveryListOfTables checks lists of another length, and tables that are not there, too.
func TestP81EveryListOfTables(t *testing.T) {
	eachQuarrels(3, func(guests int, quarrels []int) {
		for many := range 5 {
			eachList(many, guests+1, func(list []int) {
				seats := slices.Clone(list)
				fits := many == guests
				for i := range seats {
					seats[i]--
					fits = fits && 0 <= seats[i] && seats[i] < guests
				}
				if got := impl.SeatsOk(guests, quarrels, seats); got != (fits && inPeace(quarrels, seats)) {
					t.Error(guests, quarrels, seats, got)
				}
			})
		}
	})
	refusesBadQuarrels(t, func(guests int, quarrels []int) bool {
		return !impl.SeatsOk(guests, quarrels, upTo(len(quarrels))) && !impl.SeatsOk(guests, quarrels, nil) && !impl.SeatsOk(guests, quarrels, make([]int, len(quarrels)))
	})
}

func TestP82AQuarrelMoreNeedsATableMoreAtMost(t *testing.T) {
	for guests := range impl.MaxGuests + 1 {
		if least := impl.SeatsLeast(guests, make([]int, guests)); least != oneIf(guests > 0) {
			t.Error("without quarrels", guests, least)
		}
	}
	fewer := 0
	forQuarrels(t, func(t *testing.T, guests int, quarrels []int) {
		least := impl.SeatsLeast(guests, quarrels)
		if least < 0 || least > guests {
			t.Error("tables", guests, quarrels, least)
		}
		for i, set := range quarrels {
			for _, k := range membersOf(set) {
				then := impl.SeatsLeast(guests, withoutQuarrel(quarrels, i, k))
				if then != least && then != least-1 {
					t.Error("made up", guests, quarrels, i, k, least, then)
				}
				fewer += oneIf(then < least)
			}
		}
	})
	if fewer < 100 {
		t.Error("too few who can sit at fewer tables", fewer)
	}
	refusesBadQuarrels(t, func(guests int, quarrels []int) bool { return impl.SeatsLeast(guests, quarrels) == -1 })
}

func TestP83WhoQuarrelAllNeedATableEach(t *testing.T) {
	forQuarrels(t, func(t *testing.T, guests int, quarrels []int) {
		clique := impl.CliqueMost(guests, quarrels)
		if clique > impl.SeatsLeast(guests, quarrels) {
			t.Error("tables", guests, quarrels, clique)
		}
		if sumOf(quarrels) > 0 && clique < 2 || sumOf(quarrels) == 0 && clique != oneIf(guests > 0) {
			t.Error("a quarrel", guests, quarrels, clique)
		}
		if most := mostWho(guests, func(one, other int) bool { return inSet(quarrels[one], other) }); clique != most {
			t.Error("most", guests, quarrels, clique, most)
		}
	})
	refusesBadQuarrels(t, func(guests int, quarrels []int) bool { return impl.CliqueMost(guests, quarrels) == -1 })
}
