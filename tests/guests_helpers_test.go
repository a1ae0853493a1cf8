package tests

import (
	"math"
	"math/rand/v2"
	"slices"

	"loop.example/restaurantkitchen/impl"
)

// guestList is a number of guests with their menu, or with their quarrels.
type guestList struct {
	guests int
	sets   []int
}

// dinner returns five guests and a menu of which two of them eat one dish only, each another one.
func dinner() (int, []int) {
	return 5, []int{3, 12, 5, 16}
}

// ring returns the quarrels of five guests who each do not sit with the one before and the one behind.
func ring() (int, []int) {
	return 5, []int{18, 5, 10, 20, 9}
}

// everybody returns the set of so many guests.
func everybody(guests int) int {
	set := 0
	for k := range guests {
		set += 1 << k
	}
	return set
}

// membersOf returns the elements of a set.
func membersOf(set int) []int {
	var list []int
	for k := range 8 {
		if inSet(set, k) {
			list = append(list, k)
		}
	}
	return list
}

// randomMenu returns a valid menu for so many guests, of which some dishes are for nobody or for everybody.
func randomMenu(r *rand.Rand, guests, dishes int) []int {
	menu := make([]int, between(r, 0, dishes))
	often := between(r, 1, 4)
	for i := range menu {
		for k := range guests {
			menu[i] += oneIf(r.IntN(5) < often) << k
		}
	}
	return menu
}

// randomQuarrels returns valid quarrels of so many guests.
func randomQuarrels(r *rand.Rand, guests int) []int {
	quarrels := make([]int, guests)
	often := between(r, 0, 5)
	for i := range guests {
		for k := range i {
			if r.IntN(5) < often {
				quarrels[i] += 1 << k
				quarrels[k] += 1 << i
			}
		}
	}
	return quarrels
}

// eachMenu calls a check with every menu of few dishes for few guests.
func eachMenu(check func(guests int, menu []int)) {
	for guests, most := range []int{impl.MaxMenu, impl.MaxMenu, 5, 4, 3} {
		for dishes := range most + 1 {
			eachList(dishes, everybody(guests), func(menu []int) { check(guests, menu) })
		}
	}
}

// eachQuarrels calls a check with all quarrels of at most so many guests.
func eachQuarrels(most int, check func(guests int, quarrels []int)) {
	for guests := range most + 1 {
		for which := range 1 << (guests * (guests - 1) / 2) {
			quarrels, rest := make([]int, guests), which
			for i := range guests {
				for k := range i {
					quarrels[i] += rest & 1 << k
					quarrels[k] += rest & 1 << i
					rest >>= 1
				}
			}
			check(guests, quarrels)
		}
	}
}

// eatSome tells, guest by guest, who eats one of some dishes at least.
func eatSome(guests int, menu []int, dishes int) int {
	fed := 0
	for k := range guests {
		fed += oneIf(slices.ContainsFunc(membersOf(dishes), func(i int) bool { return inSet(menu[i], k) })) << k
	}
	return fed
}

// feedEach tells whether each guest eats one of some dishes at least.
func feedEach(guests int, menu []int, dishes int) bool {
	return eatSome(guests, menu, dishes) == everybody(guests)
}

// leastDishes tells the fewest dishes that feed all by trying all sets, those with the fewest first; -1 if there are none.
func leastDishes(guests int, menu []int) int {
	for many := range len(menu) + 1 {
		for dishes := range 1 << len(menu) {
			if len(membersOf(dishes)) == many && feedEach(guests, menu, dishes) {
				return dishes
			}
		}
	}
	return -1
}

// gainsOf tells for each of dishes, one after the other, how many guests eat it who eat none before it.
func gainsOf(guests int, menu []int, dishes []int) []int {
	gains := make([]int, len(dishes))
	fed := 0
	for i, dish := range dishes {
		now := eatSome(guests, menu, fed|1<<dish)
		gains[i] = len(membersOf(now)) - len(membersOf(eatSome(guests, menu, fed)))
		fed |= 1 << dish
	}
	return gains
}

// dishesForMost tells the dishes by putting all in the order of what they gain, anew for each one.
func dishesForMost(guests int, menu []int) []int {
	var chosen []int
	for {
		best := upTo(len(menu))
		gain := func(dish int) int { return gainsOf(guests, menu, append(slices.Clone(chosen), dish))[len(chosen)] }
		slices.SortStableFunc(best, func(a, b int) int { return gain(b) - gain(a) })
		if len(best) == 0 || gain(best[0]) == 0 {
			return chosen
		}
		chosen = append(chosen, best[0])
	}
}

// eatSame tells whether two guests eat a same dish.
func eatSame(menu []int, one, other int) bool {
	return slices.ContainsFunc(menu, func(eaters int) bool { return inSet(eaters, one) && inSet(eaters, other) })
}

// areApart tells whether a list has guests, in ascending order, of whom no two eat the same dish.
func areApart(guests int, menu []int, some []int) bool {
	for i, guest := range some {
		if guest < 0 || guest >= guests || i > 0 && guest <= some[i-1] {
			return false
		}
		for _, before := range some[:i] {
			if eatSame(menu, before, guest) {
				return false
			}
		}
	}
	return true
}

// mostWho tells how many elements a set has at most in which every two may be together.
func mostWho(guests int, may func(one, other int) bool) int {
	most := 0
	for set := range 1 << guests {
		list, all := membersOf(set), true
		for i, one := range list {
			for _, other := range list[:i] {
				all = all && may(one, other)
			}
		}
		if all {
			most = max(most, len(list))
		}
	}
	return most
}

// mayQuarrel tells, pair by pair, whether quarrels are as they can be.
func mayQuarrel(guests int, quarrels []int) bool {
	if len(quarrels) != guests {
		return false
	}
	for i, set := range quarrels {
		if set < 0 || set > everybody(guests) || inSet(set, i) {
			return false
		}
		for k, other := range quarrels {
			if inSet(set, k) != inSet(other, i) {
				return false
			}
		}
	}
	return true
}

// inPeace tells whether guests sit so that no two who quarrel are at the same table.
func inPeace(quarrels []int, seats []int) bool {
	for i := range seats {
		for k := range seats {
			if seats[i] == seats[k] && inSet(quarrels[i], k) {
				return false
			}
		}
	}
	return true
}

// leastTables tells the least number of tables by trying all divisions of the guests.
func leastTables(guests int, quarrels []int) int {
	least := guests
	eachDivision(upTo(guests), func(tables []int) {
		seats := make([]int, guests)
		for i, table := range tables {
			for _, k := range membersOf(table) {
				seats[k] = i
			}
		}
		if inPeace(quarrels, seats) {
			least = min(least, len(tables))
		}
	})
	return least
}

// firstTables tells for each guest, in their order, the least number that none of those before it has with whom it quarrels.
func firstTables(quarrels []int) []int {
	seats := make([]int, len(quarrels))
	for i := range seats {
		var not []int
		for _, k := range membersOf(quarrels[i]) {
			if k < i {
				not = append(not, seats[k])
			}
		}
		seats[i] = slices.IndexFunc(upTo(impl.MaxGuests), func(table int) bool { return !slices.Contains(not, table) })
	}
	return seats
}

// withoutQuarrel returns quarrels after two guests have made up.
func withoutQuarrel(quarrels []int, one, other int) []int {
	return with(with(quarrels, one, quarrels[one]&^(1<<other)), other, quarrels[other]&^(1<<one))
}

// badGuests are numbers of guests that there cannot be.
var badGuests = []int{-1, impl.MaxGuests + 1, 62, 63, 64, 65, math.MinInt, math.MaxInt}

// badMenus returns guests with menus that are not valid, by what is wrong.
func badMenus() map[string]guestList {
	return map[string]guestList{
		"less than nobody":          {-1, nil},
		"less than nobody, nothing": {-1, []int{0}},
		"a guest too many":          {impl.MaxGuests + 1, nil},
		"a guest too many, fed":     {impl.MaxGuests + 1, []int{127}},
		"guests for the lowest bit": {63, []int{1}},
		"guests for no bit":         {64, []int{0}},
		"more guests than bits":     {65, []int{1}},
		"far below nobody":          {math.MinInt, []int{0}},
		"far too many guests":       {math.MaxInt, []int{1}},
		"a dish too many":           {3, []int{1, 2, 4, 1, 2, 4, 7}},
		"a dish too many, nobody":   {0, make([]int, impl.MaxMenu+1)},
		"many too many":             {6, slices.Repeat([]int{63}, 100)},
		"nobody is there":           {0, []int{1}},
		"nobody is there at last":   {0, []int{0, 0, 1}},
		"another guest":             {1, []int{2}},
		"first for another guest":   {3, []int{8, 7, 7}},
		"last for another guest":    {3, []int{7, 7, 8}},
		"one guest more":            {4, []int{3, 12, 5, 16}},
		"past all guests":           {6, []int{64}},
		"first less than nobody":    {3, []int{-1, 7, 7}},
		"last less than nobody":     {3, []int{7, 7, -1}},
		"far less than nobody":      {6, []int{63, math.MinInt}},
		"far past all guests":       {6, []int{63, math.MaxInt}},
	}
}

// badQuarrels returns guests with quarrels that are not valid, by what is wrong.
func badQuarrels() map[string]guestList {
	return map[string]guestList{
		"less than nobody":          {-1, nil},
		"less than nobody, one":     {-1, []int{0}},
		"a guest too many":          {impl.MaxGuests + 1, make([]int, impl.MaxGuests+1)},
		"a guest too many, none":    {impl.MaxGuests + 1, nil},
		"guests for no bit":         {64, make([]int, 64)},
		"far below nobody":          {math.MinInt, nil},
		"far too many guests":       {math.MaxInt, []int{0}},
		"none for one guest":        {1, nil},
		"one set too few":           {3, []int{2, 1}},
		"one set too many":          {2, []int{2, 1, 0}},
		"sets for nobody":           {0, []int{0}},
		"with oneself":              {1, []int{1}},
		"first with oneself":        {3, []int{1, 0, 0}},
		"last with oneself":         {3, []int{0, 0, 4}},
		"with oneself, too":         {3, []int{6, 7, 3}},
		"all with all":              {6, slices.Repeat([]int{63}, 6)},
		"in one direction":          {2, []int{2, 0}},
		"in the other direction":    {2, []int{0, 1}},
		"one of them in one":        {4, []int{2, 5, 2, 1}},
		"round a table":             {3, []int{2, 4, 1}},
		"with nobody who is there":  {2, []int{4, 0}},
		"last with another one":     {3, []int{0, 0, 8}},
		"past all guests":           {6, []int{0, 0, 0, 0, 0, 64}},
		"first less than nobody":    {2, []int{-1, 0}},
		"last less than nobody":     {2, []int{2, -3}},
		"less than nobody, in both": {2, []int{-2, -3}},
		"far less than nobody":      {2, []int{math.MinInt, 0}},
		"far past all guests":       {2, []int{math.MaxInt - 1, math.MaxInt - 2}},
	}
}
