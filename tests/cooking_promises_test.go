package tests

import (
	"math/rand/v2"
	"slices"
	"testing"

	"loop.example/restaurantkitchen/impl"
)

// refusesBadDishes checks that dishes which are not valid are refused.
func refusesBadDishes(t *testing.T, refused func(list []impl.Dish) bool) {
	t.Helper()
	for name, list := range badDishes() {
		if !refused(list) {
			t.Error(name)
		}
	}
}

// refusesBadSpans checks that spans which are not valid are refused.
func refusesBadSpans(t *testing.T, refused func(spans []int) bool) {
	t.Helper()
	for name, spans := range badSpans() {
		if !refused(spans) {
			t.Error(name)
		}
	}
}

// refusesBadTasks checks that tasks which are not valid are refused.
func refusesBadTasks(t *testing.T, refused func(list []impl.Task) bool) {
	t.Helper()
	for name, list := range badTasks() {
		if !refused(list) {
			t.Error(name)
		}
	}
}

// refusesBadOrders checks that lists which are no orders of three are refused.
func refusesBadOrders(t *testing.T, refused func(order []int) bool) {
	t.Helper()
	for name, order := range badOrders() {
		if !refused(order) {
			t.Error(name)
		}
	}
}

func TestP8NoOrderEndsEarlier(t *testing.T) {
	later := 0
	forSeeds(t, 300, func(t *testing.T, r *rand.Rand) {
		list := randomDishes(r, 5)
		least, reached := impl.FlowLeast(list), false
		if impl.FlowEnd(list, impl.FlowBest(list)) != least {
			t.Error("the best order", list)
		}
		eachOrder(len(list), func(order []int) {
			end := impl.FlowEnd(list, order)
			if end < least || end != greatest(flowEnds(list, order)) {
				t.Error("earlier", list, order, end, least)
			}
			if impl.FlowEnd(otherWay(list), reversed(order)) != end {
				t.Error("the other direction", list, order)
			}
			reached = reached || end == least
			if end > least {
				later++
			}
		})
		if !reached || impl.FlowLeast(otherWay(list)) != least {
			t.Error("no order ends so early", list, least)
		}
	})
	if later < 1000 {
		t.Error("too few orders that end later", later)
	}
	refusesBadDishes(t, func(list []impl.Dish) bool {
		return impl.FlowEnd(list, upTo(len(list))) == -1 && impl.FlowLeast(list) == -1
	})
	refusesBadOrders(t, func(order []int) bool { return impl.FlowEnd(courses(), order) == -1 })
}

func TestP8AsManyDishesAsThereMayBe(t *testing.T) {
	for _, list := range [][]impl.Dish{noMinutes(), fullDishes(), {{Prep: 9, Cook: 1}, {Prep: 1, Cook: 9}, {Prep: 30}, {Cook: 30}, {Prep: 5, Cook: 5}, {Prep: 4, Cook: 5}}} {
		least := 999
		eachOrder(len(list), func(order []int) { least = min(least, impl.FlowEnd(list, order)) })
		if impl.FlowLeast(list) != least {
			t.Error(list, least)
		}
	}
}

func TestP9NoListEndsEarlierThanTheLeastOne(t *testing.T) {
	forSeeds(t, 300, func(t *testing.T, r *rand.Rand) {
		spans := randomSpans(r, impl.MaxDishes)
		for burners := 1; burners <= impl.MaxBurners; burners++ {
			least, reached := impl.BurnLeast(spans, burners), false
			eachList(len(spans), burners-1, func(on []int) {
				end := impl.BurnEnd(spans, burners, on)
				if end < least || end < greatest(spans) || end*burners < sumOf(spans) || end != burnerEnd(spans, on) {
					t.Error("end", spans, burners, on, end)
				}
				reached = reached || end == least
			})
			if !reached {
				t.Error("no list ends so early", spans, burners, least)
			}
		}
	})
	refusesBadSpans(t, func(spans []int) bool {
		return impl.BurnEnd(spans, 2, make([]int, len(spans))) == -1 && impl.BurnLeast(spans, 2) == -1
	})
	for _, burners := range badBurners {
		if impl.BurnLeast([]int{1, 2}, burners) != -1 || impl.BurnEnd([]int{1, 2}, burners, []int{0, 0}) != -1 {
			t.Error(burners)
		}
	}
}

func TestP10AnyOrderIsNearlyBest(t *testing.T) {
	worse, best := 0, 0
	forSeeds(t, 2000, func(t *testing.T, r *rand.Rand) {
		spans := randomSpans(r, impl.MaxDishes)
		for burners := 1; burners <= impl.MaxBurners; burners++ {
			on := impl.BurnList(spans, burners)
			end, least := impl.BurnEnd(spans, burners, on), impl.BurnLeast(spans, burners)
			if !impl.BurnOk(spans, burners, on) || end*burners > least*(2*burners-1) {
				t.Error(spans, burners, on, end, least)
			}
			if end > least {
				worse++
			} else if burners > 1 {
				best++
			}
			// Whatever is put on a burner, no other one was free earlier.
			busy := make([]int, burners)
			for i, burner := range on {
				if slices.Index(busy, slices.Min(busy)) != burner {
					t.Error("not the first one that is free", spans, burners, on)
				}
				busy[burner] += spans[i]
			}
		}
	})
	if worse < 100 || best < 100 {
		t.Error("too few of a kind", worse, best)
	}
	// With two burners the bound is reached, and with only one nothing is worse than the best.
	for span := range impl.MaxSpan/2 + 1 {
		spans := []int{span, span, 2 * span}
		if impl.BurnEnd(spans, 2, impl.BurnList(spans, 2)) != 3*span || impl.BurnLeast(spans, 2) != 2*span || impl.BurnLeast(spans, 1) != 4*span {
			t.Error("just as bad as can be", span)
		}
	}
	refusesBadSpans(t, func(spans []int) bool { return impl.BurnList(spans, 2) == nil })
	for _, burners := range badBurners {
		if impl.BurnList([]int{1, 2}, burners) != nil {
			t.Error(burners)
		}
	}
}

func TestP11NoOrderWaitsLess(t *testing.T) {
	longer := 0
	forSeeds(t, 300, func(t *testing.T, r *rand.Rand) {
		spans := randomSpans(r, 5)
		least := impl.TogetherWaits(spans, impl.TogetherBest(spans))
		eachOrder(len(spans), func(order []int) {
			waits := impl.TogetherWaits(spans, order)
			if waits < least || waits != waitsTogether(spans, order) {
				t.Error("less", spans, order, waits, least)
			}
			if waits+impl.TogetherWaits(spans, reversed(order)) != sumOf(spans)*(len(spans)-1) {
				t.Error("the other direction", spans, order)
			}
			if waits > least {
				longer++
			}
		})
	})
	if longer < 1000 {
		t.Error("too few orders that wait longer", longer)
	}
	refusesBadSpans(t, func(spans []int) bool { return impl.TogetherWaits(spans, upTo(len(spans))) == -1 })
	refusesBadOrders(t, func(order []int) bool { return impl.TogetherWaits([]int{2, 5, 3}, order) == -1 })
}

func TestP12NoTaskBeginsEarlierThanItCan(t *testing.T) {
	may, not := 0, 0
	forSeeds(t, 200, func(t *testing.T, r *rand.Rand) {
		list := randomTasks(r, 4, 2)
		early, late, end := impl.StartsEarly(list), impl.StartsLate(list), impl.TasksEnd(list)
		if len(early) != len(list) || len(late) != len(list) {
			t.Error("too few", list, early, late)
			return
		}
		eachList(len(list), end+1, func(starts []int) {
			ok, done := startsMay(list, starts), 0
			if impl.StartsOk(list, starts) != ok {
				t.Error("may", list, starts, ok)
			}
			if !ok {
				not++
				return
			}
			may++
			for i, start := range starts {
				done = max(done, start+list[i].Span)
			}
			for i, start := range starts {
				if start < early[i] || done <= end && start > late[i] {
					t.Error(list, starts, early, late, i)
				}
			}
			if done < end {
				t.Error("done before the end", list, starts, end)
			}
		})
	})
	if may < 1000 || not < 1000 {
		t.Error("too few of a kind", may, not)
	}
	refusesBadTasks(t, func(list []impl.Task) bool { return impl.StartsEarly(list) == nil && impl.StartsLate(list) == nil })
}

func TestP12AsManyTasksAsThereMayBe(t *testing.T) {
	forSeeds(t, 2000, func(t *testing.T, r *rand.Rand) {
		list := randomTasks(r, impl.MaxTasks, impl.MaxSpan)
		early, late := impl.StartsEarly(list), impl.StartsLate(list)
		starts, slack := make([]int, len(list)), between(r, 0, 30)
		for i, x := range list {
			for _, before := range x.After {
				starts[i] = max(starts[i], starts[before]+list[before].Span)
			}
			starts[i] += between(r, 0, slack)
		}
		if !impl.StartsOk(list, starts) || len(early) != len(list) || len(late) != len(list) {
			t.Error("may", list, starts, early, late)
			return
		}
		end := 0
		for i, start := range starts {
			end = max(end, start+list[i].Span)
		}
		// Whoever is done so much later than the end could begin everything so much later, but not more.
		delay := end - impl.TasksEnd(list)
		for i, start := range starts {
			if start < early[i] || start > late[i]+delay {
				t.Error(list, starts, early, late, i)
			}
		}
	})
}

func TestP13TheLongestWayDecides(t *testing.T) {
	several := 0
	forSeeds(t, 2000, func(t *testing.T, r *rand.Rand) {
		list := randomTasks(r, impl.MaxTasks, []int{1, 3, impl.MaxSpan}[r.IntN(3)])
		way := impl.LongestWay(list)
		if (len(way) == 0) != (len(list) == 0) || spanOf(list, way) != impl.TasksEnd(list) {
			t.Error("together", list, way)
		}
		early, late := impl.StartsEarly(list), impl.StartsLate(list)
		for k, i := range way {
			if k > 0 && !slices.Contains(list[i].After, way[k-1]) || early[i] != late[i] || (early[i] == 0) != (k == 0) {
				t.Error("a task of it", list, way, i)
			}
		}
		// From the end on, the least index comes first each time, and a shorter way before one that goes on.
		var least []int
		found := 0
		eachWay(list, func(fromEnd []int) {
			if spanOf(list, fromEnd) != impl.TasksEnd(list) {
				return
			}
			found++
			if found == 1 || slices.Compare(fromEnd, least) < 0 {
				least = fromEnd
			}
		})
		if !slices.Equal(reversed(least), way) {
			t.Error("another way", list, way, least)
		}
		if found > 1 {
			several++
		}
	})
	if several < 100 {
		t.Error("too few with several ways", several)
	}
	refusesBadTasks(t, func(list []impl.Task) bool { return impl.LongestWay(list) == nil })
	if impl.LongestWay(nil) != nil {
		t.Error("no tasks")
	}
}

func TestP46DishesMayBeReady(t *testing.T) {
	forSeeds(t, 500, func(t *testing.T, r *rand.Rand) {
		list := randomDishes(r, impl.MaxDishes)
		if !impl.DishesValid(list) || impl.DishesValid(append(slices.Clone(list), impl.Dish{})) != (len(list) < impl.MaxDishes) {
			t.Error("valid", list)
		}
		for i, x := range list {
			for _, bad := range []impl.Dish{{Prep: -1, Cook: x.Cook}, {Prep: x.Prep, Cook: -1}, {Prep: impl.MaxSpan + 1, Cook: x.Cook}, {Prep: x.Prep, Cook: impl.MaxSpan + 1}} {
				other := slices.Clone(list)
				other[i] = bad
				if impl.DishesValid(other) {
					t.Error("not valid", other)
				}
			}
		}
	})
	refusesBadDishes(t, func(list []impl.Dish) bool { return !impl.DishesValid(list) })
}

func TestP47OrdersCanBeTurnedRound(t *testing.T) {
	forSeeds(t, 500, func(t *testing.T, r *rand.Rand) {
		order := r.Perm(between(r, 0, 9))
		many := len(order)
		if !impl.OrderOk(order, many) || !impl.OrderOk(reversed(order), many) {
			t.Error("an order", order)
		}
		if many == 0 {
			return
		}
		again := append(slices.Clone(order), order[0])
		if impl.OrderOk(again, many) || impl.OrderOk(again, many+1) {
			t.Error("the first index once more", order)
		}
		for i := range order {
			if impl.OrderOk(with(order, i, many), many) || impl.OrderOk(with(order, i, -1), many) || impl.OrderOk(with(order, i, (order[i]+1)%many), many) != (many == 1) {
				t.Error("another index", order, i)
			}
		}
		if impl.OrderOk(order[1:], many) || impl.OrderOk(order, many-1) || impl.OrderOk(order, many+1) || impl.OrderOk(order, -many) {
			t.Error("not so many", order)
		}
	})
	if !impl.OrderOk(nil, 0) || impl.OrderOk(nil, -1) || impl.OrderOk(nil, 1) {
		t.Error("an order of nothing")
	}
}

func TestP48NothingIsCookedBeforeItIsPrepared(t *testing.T) {
	pauses := 0
	forSeeds(t, 1000, func(t *testing.T, r *rand.Rand) {
		list := randomDishes(r, impl.MaxDishes)
		order := r.Perm(len(list))
		ends := impl.FlowEnds(list, order)
		if len(ends) != len(list) || !slices.Equal(ends, flowEnds(list, order)) {
			t.Error("ends", list, order, ends)
			return
		}
		prepared, cooked := 0, 0
		for _, index := range order {
			prepared += list[index].Prep
			if ends[index] < prepared+list[index].Cook || ends[index] < cooked+list[index].Cook {
				t.Error("too early", list, order, ends, index)
			}
			if prepared > cooked {
				pauses++
			}
			cooked = ends[index]
		}
	})
	if pauses < 100 {
		t.Error("too few pauses", pauses)
	}
	refusesBadDishes(t, func(list []impl.Dish) bool { return impl.FlowEnds(list, upTo(len(list))) == nil })
	refusesBadOrders(t, func(order []int) bool { return impl.FlowEnds(courses(), order) == nil })
}

func TestP49TheBestOrderIsOne(t *testing.T) {
	forSeeds(t, 2000, func(t *testing.T, r *rand.Rand) {
		list := randomDishes(r, impl.MaxDishes)
		order := impl.FlowBest(list)
		if !impl.OrderOk(order, len(list)) {
			t.Error("no order", list, order)
			return
		}
		for k := range order {
			if k == 0 {
				continue
			}
			other := slices.Clone(order)
			other[k-1], other[k] = other[k], other[k-1]
			if impl.FlowEnd(list, other) < impl.FlowEnd(list, order) {
				t.Error("exchanged", list, order, other)
			}
			x, y := list[order[k-1]], list[order[k]]
			first, second := x.Prep < x.Cook, y.Prep < y.Cook
			switch {
			case first && second:
				if x.Prep > y.Prep || x.Prep == y.Prep && order[k-1] > order[k] {
					t.Error("by ascending Prep", list, order)
				}
			case !first && second:
				t.Error("the others first", list, order)
			case !first && !second:
				if x.Cook < y.Cook || x.Cook == y.Cook && order[k-1] > order[k] {
					t.Error("by descending Cook", list, order)
				}
			}
		}
	})
	refusesBadDishes(t, func(list []impl.Dish) bool { return impl.FlowBest(list) == nil })
}

func TestP50BothCooksHaveTheirWork(t *testing.T) {
	forSeeds(t, 1000, func(t *testing.T, r *rand.Rand) {
		list := randomDishes(r, impl.MaxDishes)
		least := impl.FlowLeast(list)
		prep, cook := 0, 0
		for _, x := range list {
			prep += x.Prep
			cook += x.Cook
			if least < x.Prep+x.Cook {
				t.Error("a dish alone", list, least)
			}
		}
		if least < prep || least < cook || least > prep+cook {
			t.Error("both", list, least)
		}
	})
	if impl.FlowLeast(nil) != 0 || impl.FlowLeast(make([]impl.Dish, 4)) != 0 {
		t.Error("no work")
	}
	refusesBadDishes(t, func(list []impl.Dish) bool { return impl.FlowLeast(list) == -1 })
}

func TestP51SpansMayBeNothing(t *testing.T) {
	forSeeds(t, 500, func(t *testing.T, r *rand.Rand) {
		spans := randomSpans(r, impl.MaxDishes)
		if !impl.SpansValid(spans) || !impl.SpansValid(make([]int, len(spans))) {
			t.Error("valid", spans)
		}
		for i := range spans {
			if !impl.SpansValid(with(spans, i, impl.MaxSpan)) || impl.SpansValid(with(spans, i, -1)) || impl.SpansValid(with(spans, i, impl.MaxSpan+1)) {
				t.Error(spans, i)
			}
		}
	})
	refusesBadSpans(t, func(spans []int) bool { return !impl.SpansValid(spans) })
}

func TestP52OneBurnerIsEnough(t *testing.T) {
	forSeeds(t, 500, func(t *testing.T, r *rand.Rand) {
		spans, burners := randomSpans(r, impl.MaxDishes), between(r, 1, impl.MaxBurners)
		on := amounts(r, len(spans), burners-1)
		if !impl.BurnOk(spans, burners, on) || !impl.BurnOk(spans, burners, make([]int, len(spans))) || impl.BurnEnd(spans, burners, make([]int, len(spans))) != sumOf(spans) {
			t.Error("right", spans, burners, on)
		}
		for i := range on {
			if impl.BurnOk(spans, burners, with(on, i, burners)) || impl.BurnOk(spans, burners, with(on, i, -1)) || impl.BurnOk(spans, burners, on[:i]) {
				t.Error("wrong", spans, burners, on, i)
			}
		}
		if impl.BurnOk(spans, burners, append(on, 0)) {
			t.Error("one too many", spans, burners, on)
		}
	})
	refusesBadSpans(t, func(spans []int) bool { return !impl.BurnOk(spans, 1, make([]int, len(spans))) })
	for _, burners := range badBurners {
		if impl.BurnOk([]int{1, 2}, burners, []int{0, 0}) || impl.BurnOk(nil, burners, nil) {
			t.Error(burners)
		}
	}
}

func TestP53MoreBurnersAreNeverSlower(t *testing.T) {
	faster := 0
	forSeeds(t, 500, func(t *testing.T, r *rand.Rand) {
		spans := randomSpans(r, impl.MaxDishes)
		before := impl.BurnLeast(spans, 1)
		if before != sumOf(spans) {
			t.Error("one burner", spans, before)
		}
		for burners := 2; burners <= impl.MaxBurners; burners++ {
			least := impl.BurnLeast(spans, burners)
			if least > before || len(spans) <= burners && least != greatest(spans) {
				t.Error("a burner more", spans, burners, least)
			}
			if least < before {
				faster++
			}
			before = least
		}
	})
	if faster < 100 {
		t.Error("too few that are faster", faster)
	}
	refusesBadSpans(t, func(spans []int) bool { return impl.BurnLeast(spans, 1) == -1 && impl.BurnLeast(spans, 3) == -1 })
}

func TestP54WhatTakesLongestIsFirst(t *testing.T) {
	forSeeds(t, 1000, func(t *testing.T, r *rand.Rand) {
		spans := randomSpans(r, impl.MaxDishes)
		order := impl.TogetherBest(spans)
		if !impl.OrderOk(order, len(spans)) {
			t.Error("no order", spans, order)
			return
		}
		for k, index := range order {
			if k == 0 {
				continue
			}
			before := order[k-1]
			if spans[before] < spans[index] || spans[before] == spans[index] && before > index {
				t.Error("before a longer one", spans, order)
			}
		}
	})
	refusesBadSpans(t, func(spans []int) bool { return impl.TogetherBest(spans) == nil })
}

func TestP55TasksCanBeMissingBehindTheOthers(t *testing.T) {
	forSeeds(t, 500, func(t *testing.T, r *rand.Rand) {
		list := randomTasks(r, impl.MaxTasks, impl.MaxSpan)
		if !impl.TasksValid(list) || len(list) > 0 && !impl.TasksValid(list[:len(list)-1]) {
			t.Error("valid", list)
		}
		for i, x := range list {
			for _, bad := range []impl.Task{
				{Span: x.Span, After: []int{i}},
				{Span: x.Span, After: append(slices.Clone(x.After), i)},
				{Span: x.Span, After: append([]int{-1}, x.After...)},
				{Span: x.Span, After: []int{0, 0}},
				{Span: -1, After: x.After},
				{Span: impl.MaxSpan + 1, After: x.After},
			} {
				other := slices.Clone(list)
				other[i] = bad
				if impl.TasksValid(other) {
					t.Error("not valid", other)
				}
			}
			if len(x.After) > 1 {
				other := slices.Clone(list)
				other[i] = impl.Task{Span: x.Span, After: reversed(x.After)}
				if impl.TasksValid(other) {
					t.Error("descending", other)
				}
			}
		}
	})
	refusesBadTasks(t, func(list []impl.Task) bool { return !impl.TasksValid(list) })
}

func TestP56TheEarliestTimesMayBe(t *testing.T) {
	forSeeds(t, 1000, func(t *testing.T, r *rand.Rand) {
		list := randomTasks(r, impl.MaxTasks, []int{1, 3, impl.MaxSpan}[r.IntN(3)])
		early, longest := impl.StartsEarly(list), longestWays(list)
		if !impl.StartsOk(list, early) {
			t.Error("may not be", list, early)
			return
		}
		for i, start := range early {
			if impl.StartsOk(list, with(early, i, start-1)) || start != longest[i]-list[i].Span {
				t.Error("earlier", list, early, i)
			}
		}
	})
	refusesBadTasks(t, func(list []impl.Task) bool {
		return impl.StartsEarly(list) == nil && !impl.StartsOk(list, slices.Repeat([]int{99}, len(list)))
	})
}

func TestP57NothingEndsBeforeEverythingDoes(t *testing.T) {
	forSeeds(t, 1000, func(t *testing.T, r *rand.Rand) {
		list := randomTasks(r, impl.MaxTasks, impl.MaxSpan)
		spans, end := spansOf(list), impl.TasksEnd(list)
		if end < greatest(spans) || end > sumOf(spans) || end != greatest(longestWays(list)) {
			t.Error("end", list, end)
		}
		for many := range list {
			if impl.TasksEnd(list[:many]) > impl.TasksEnd(list[:many+1]) {
				t.Error("without the last one", list, many)
			}
		}
	})
	if impl.TasksEnd(nil) != 0 || impl.TasksEnd(chain()) != impl.MaxTasks*impl.MaxSpan {
		t.Error("none or all")
	}
	refusesBadTasks(t, func(list []impl.Task) bool { return impl.TasksEnd(list) == -1 })
}

func TestP58TheLatestTimesMayBe(t *testing.T) {
	later := 0
	forSeeds(t, 1000, func(t *testing.T, r *rand.Rand) {
		list := randomTasks(r, impl.MaxTasks, []int{1, 3, impl.MaxSpan}[r.IntN(3)])
		early, late, end := impl.StartsEarly(list), impl.StartsLate(list), impl.TasksEnd(list)
		if !impl.StartsOk(list, late) || len(late) != len(early) {
			t.Error("may not be", list, late)
			return
		}
		same := 0
		for i, start := range late {
			if start < early[i] || start+list[i].Span > end {
				t.Error("too early or too late", list, early, late, i)
			}
			if start == early[i] {
				same++
			} else {
				later++
			}
			// A minute later it would not be done by the end, or not by the time at which another one begins.
			if impl.StartsOk(list, with(late, i, start+1)) && start+1+list[i].Span <= end {
				t.Error("later", list, late, i)
			}
		}
		if same == 0 && len(list) > 0 {
			t.Error("none is the same", list, early, late)
		}
	})
	if later < 100 {
		t.Error("too few that can begin later", later)
	}
	refusesBadTasks(t, func(list []impl.Task) bool { return impl.StartsLate(list) == nil })
}
