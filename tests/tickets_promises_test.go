package tests

import (
	"math/rand/v2"
	"slices"
	"testing"

	"loop.example/restaurantkitchen/impl"
)

// refusesBadTickets checks that tickets which are not valid are refused.
func refusesBadTickets(t *testing.T, refused func(ticket []impl.Order) bool) {
	t.Helper()
	for name, ticket := range badTickets() {
		if !refused(ticket) {
			t.Error(name)
		}
	}
}

// refusesBadKitchens checks that kitchens which are not valid are refused.
func refusesBadKitchens(t *testing.T, refused func(kitchen [][]impl.Order) bool) {
	t.Helper()
	for name, kitchen := range badKitchens() {
		if !refused(kitchen) {
			t.Error(name)
		}
	}
}

// checkEvent checks that an event of a valid ticket changes only its dish, to a later state, or nothing, and reports whether it changes it.
func checkEvent(t *testing.T, ticket []impl.Order, index, event int) bool {
	t.Helper()
	then, ok := impl.TicketDo(ticket, index, event)
	if !ok {
		if !slices.Equal(then, ticket) {
			t.Error("changed", ticket, index, event, then)
		}
		return false
	}
	x, now := ticket[index], then[index]
	if isState(x, "st") || now.Course != x.Course || now.State <= x.State || !slices.Equal(then, withOrder(ticket, index, now)) {
		t.Error("another change", ticket, index, event, then)
	}
	if !inCourse(then) || !impl.TicketValid(then) {
		t.Error("overtaken", ticket, index, event, then)
	}
	return true
}

func TestP14NothingGoesBackAndNoCourseOvertakes(t *testing.T) {
	done, refused := 0, 0
	eachValid(4, func(ticket []impl.Order) {
		for index, x := range ticket {
			// What is possible: to be fired in its course, to become the next state, or to be taken back.
			may := []bool{slices.Contains(canFire(ticket), index), isState(x, "f"), isState(x, "c"), isState(x, "ofc")}
			for _, event := range events {
				ok := checkEvent(t, ticket, index, event)
				if ok != may[event] {
					t.Error("possible", ticket, index, event, ok)
				}
				if ok {
					done++
				} else {
					refused++
				}
			}
		}
	})
	if done < 10000 || refused < 10000 {
		t.Error("too few of a kind", done, refused)
	}
	refusesBadTickets(t, func(ticket []impl.Order) bool {
		then, ok := impl.TicketDo(ticket, 0, impl.EvTake)
		return !ok && then == nil
	})
}

func TestP14WhateverIsDoneInWhateverOrder(t *testing.T) {
	ends := 0
	forSeeds(t, 500, func(t *testing.T, r *rand.Rand) {
		ticket := impl.TicketNew(amounts(r, between(r, 0, impl.MaxOrders), impl.MaxCourse))
		for range 80 {
			index, event := between(r, -1, len(ticket)), between(r, -1, 4)
			checkEvent(t, ticket, index, event)
			before := ticket
			ticket, _ = impl.TicketDo(ticket, index, event)
			for i, x := range before {
				if isState(x, "st") && ticket[i] != x {
					t.Error("changed again", before, index, event, ticket)
				}
			}
		}
		if len(ticket) > 0 && impl.TicketDone(ticket) {
			ends++
		}
	})
	if ends < 100 {
		t.Error("too few tickets come to an end", ends)
	}
}

func TestP15EveryPieceOfWorkLeavesLessToDo(t *testing.T) {
	fired, cooked, served, idle := 0, 0, 0, 0
	forSeeds(t, 3000, func(t *testing.T, r *rand.Rand) {
		kitchen := randomKitchen(r)
		then, ok := impl.WorkStep(kitchen)
		want, wantOk := workOn(kitchen)
		if ok != wantOk || !sameKitchen(then, want) {
			t.Error("work", kitchen, then, ok)
			return
		}
		if ok == !slices.ContainsFunc(kitchen, func(ticket []impl.Order) bool { return !impl.TicketDone(ticket) }) {
			t.Error("all done", kitchen, ok)
		}
		if !ok {
			idle++
			return
		}
		if impl.WorkLeft(then) != impl.WorkLeft(kitchen)-1 || !impl.KitchenValid(then) {
			t.Error("left", kitchen, then)
		}
		for i, ticket := range then {
			for k, x := range ticket {
				if x != kitchen[i][k] {
					fired += oneIf(isState(x, "f"))
					cooked += oneIf(isState(x, "c"))
					served += oneIf(isState(x, "s"))
				}
			}
		}
	})
	if min(fired, cooked, served, idle) < 100 {
		t.Error("too few of a kind", fired, cooked, served, idle)
	}
	refusesBadKitchens(t, func(kitchen [][]impl.Order) bool {
		then, ok := impl.WorkStep(kitchen)
		return !ok && then == nil && impl.WorkLeft(kitchen) == -1
	})
}

func TestP15OnEveryTicket(t *testing.T) {
	eachValid(4, func(ticket []impl.Order) {
		kitchen := [][]impl.Order{ticket}
		left := impl.WorkLeft(kitchen)
		then, ok := impl.WorkStep(kitchen)
		if ok == impl.TicketDone(ticket) || ok != (left > 0) || !impl.KitchenValid(then) || impl.WorkLeft(then) != left-oneIf(ok) {
			t.Error(ticket, then, ok)
		}
	})
}

func TestP16InTheEndEverythingIsServed(t *testing.T) {
	taken := 0
	forSeeds(t, 1000, func(t *testing.T, r *rand.Rand) {
		kitchen := randomKitchen(r)
		left := impl.WorkLeft(kitchen)
		end, done := impl.WorkRun(kitchen, 99)
		if done != left || impl.WorkLeft(end) != 0 || len(end) != len(kitchen) {
			t.Error("pieces", kitchen, end, done)
			return
		}
		for i, ticket := range end {
			if !impl.TicketDone(ticket) || len(ticket) != len(kitchen[i]) {
				t.Error("not done", kitchen, end)
				return
			}
			for k, x := range kitchen[i] {
				want := impl.Order{Course: x.Course, State: impl.StServed}
				if isState(x, "t") {
					want = x
					taken++
				}
				if ticket[k] != want {
					t.Error("not served", kitchen, end)
				}
			}
		}
		for most := range left {
			if some, n := impl.WorkRun(kitchen, most); n != most || impl.WorkLeft(some) != left-most {
				t.Error("too few pieces", kitchen, most, some, n)
			}
		}
	})
	if taken < 100 {
		t.Error("too few were taken back", taken)
	}
}

func TestP16InTwoParts(t *testing.T) {
	forSeeds(t, 1000, func(t *testing.T, r *rand.Rand) {
		kitchen := randomKitchen(r)
		one := between(r, 0, 99)
		two := between(r, 0, 99-one)
		all, many := impl.WorkRun(kitchen, one+two)
		part, first := impl.WorkRun(kitchen, one)
		part, second := impl.WorkRun(part, two)
		if many != first+second || !sameKitchen(all, part) {
			t.Error("two parts", kitchen, one, two)
		}
		step, ok := kitchen, true
		for done := 0; done < one+two && ok; done++ {
			step, ok = impl.WorkStep(step)
		}
		if !sameKitchen(step, all) {
			t.Error("step by step", kitchen, one+two)
		}
		for _, most := range []int{-1, 100} {
			if got, n := impl.WorkRun(kitchen, most); got != nil || n != 0 {
				t.Error("no such number", kitchen, most)
			}
		}
	})
	refusesBadKitchens(t, func(kitchen [][]impl.Order) bool {
		got, n := impl.WorkRun(kitchen, 99)
		return got == nil && n == 0
	})
}

func TestP59DishesCanBeCancelledBehind(t *testing.T) {
	checkRest := func(ticket []impl.Order) {
		if !impl.TicketValid(ticket) {
			t.Error("valid", ticket)
		}
		ordered := slices.Clone(ticket)
		for i, x := range ticket {
			ordered[i].State = impl.StOrdered
			if isState(x, "o") && !impl.TicketValid(slices.Delete(slices.Clone(ticket), i, i+1)) {
				t.Error("without one", ticket, i)
			}
		}
		if !impl.TicketValid(ordered) {
			t.Error("only ordered", ordered)
		}
	}
	eachValid(4, checkRest)
	forSeeds(t, 1000, func(t *testing.T, r *rand.Rand) {
		ticket := randomTicket(r, impl.MaxOrders)
		checkRest(ticket)
		for i, x := range ticket {
			for _, bad := range []impl.Order{{Course: -1, State: x.State}, {Course: 3, State: x.State}, {Course: x.Course, State: -1}, {Course: x.Course, State: 5}} {
				if impl.TicketValid(withOrder(ticket, i, bad)) {
					t.Error("not valid", ticket, i, bad)
				}
			}
		}
	})
	full := impl.TicketNew([]int{2, 2, 1, 1, 0, 0})
	if !impl.TicketValid(full) || impl.TicketValid(append(full, impl.Order{Course: 2})) {
		t.Error("as many as there may be")
	}
	refusesBadTickets(t, func(ticket []impl.Order) bool { return !impl.TicketValid(ticket) })
}

func TestP60NewTicketsAreOnlyOrdered(t *testing.T) {
	for many := range impl.MaxOrders + 1 {
		eachList(many, impl.MaxCourse, func(courses []int) {
			ticket := impl.TicketNew(courses)
			if len(ticket) != many || !impl.TicketValid(ticket) || impl.TicketDone(ticket) != (many == 0) {
				t.Error("valid", courses, ticket)
				return
			}
			for i, x := range ticket {
				if x != (impl.Order{Course: courses[i], State: impl.StOrdered}) {
					t.Error("courses", courses, ticket)
				}
				if impl.TicketNew(with(courses, i, -1)) != nil || impl.TicketNew(with(courses, i, impl.MaxCourse+1)) != nil {
					t.Error("no such course", courses, i)
				}
			}
		})
	}
	if impl.TicketNew(make([]int, impl.MaxOrders)) == nil || impl.TicketNew(make([]int, impl.MaxOrders+1)) != nil {
		t.Error("as many as there may be")
	}
}

func TestP61DishesOfOneCourseCanBeFired(t *testing.T) {
	some, none := 0, 0
	eachValid(4, func(ticket []impl.Order) {
		may, course := impl.TicketMay(ticket), impl.TicketCourse(ticket)
		if !slices.Equal(may, canFire(ticket)) {
			t.Error("pair by pair", ticket, may)
		}
		for i, x := range ticket {
			if told := slices.Contains(may, i); told != (x.Course == course && isState(x, "o")) {
				t.Error("course", ticket, may, i)
			}
			if _, ok := impl.TicketDo(ticket, i, impl.EvFire); ok != slices.Contains(may, i) {
				t.Error("fired", ticket, may, i)
			}
		}
		if len(may) > 0 {
			some++
		} else {
			none++
		}
	})
	if some < 1000 || none < 1000 {
		t.Error("too few of a kind", some, none)
	}
	refusesBadTickets(t, func(ticket []impl.Order) bool { return impl.TicketMay(ticket) == nil })
}

func TestP62CoursesAreServedInOrder(t *testing.T) {
	seen := map[int]int{}
	eachValid(4, func(ticket []impl.Order) {
		course := impl.TicketCourse(ticket)
		seen[course]++
		if course == -1 {
			if !allDone(ticket) {
				t.Error("something is left", ticket)
			}
			return
		}
		left := 0
		for _, x := range ticket {
			if x.Course < course && !isState(x, "st") || x.Course > course && isState(x, "fcs") {
				t.Error("order", ticket, course)
			}
			left += oneIf(x.Course == course && isState(x, "ofc"))
		}
		if left == 0 {
			t.Error("nothing of it is left", ticket, course)
		}
	})
	for course := -1; course <= impl.MaxCourse; course++ {
		if seen[course] < 1000 {
			t.Error("too few", course, seen[course])
		}
	}
	refusesBadTickets(t, func(ticket []impl.Order) bool { return impl.TicketCourse(ticket) == -1 })
}

// TestP62CoursesThatWereTakenBack checks that a course of which all dishes are taken back, one after the other, is no course any more.
func TestP62CoursesThatWereTakenBack(t *testing.T) {
	forSeeds(t, 500, func(t *testing.T, r *rand.Rand) {
		ticket := randomTicket(r, impl.MaxOrders)
		course := impl.TicketCourse(ticket)
		for i, x := range ticket {
			if x.Course == course && isState(x, "ofc") {
				ticket, _ = impl.TicketDo(ticket, i, impl.EvTake)
			}
		}
		rest := slices.DeleteFunc(slices.Clone(ticket), func(x impl.Order) bool { return isState(x, "st") })
		next := -1
		for _, x := range rest {
			if next == -1 || x.Course < next {
				next = x.Course
			}
		}
		if got := impl.TicketCourse(ticket); got != next || next != -1 && next <= course {
			t.Error("the course behind", ticket, course, got)
		}
		for _, i := range impl.TicketMay(ticket) {
			if ticket[i].Course != next {
				t.Error("fired", ticket, i)
			}
		}
		if len(rest) > 0 && len(impl.TicketMay(ticket)) == 0 {
			t.Error("nothing can be fired", ticket)
		}
	})
}

func TestP63WhatIsDoneStaysDone(t *testing.T) {
	done := 0
	eachValid(4, func(ticket []impl.Order) {
		if impl.TicketDone(ticket) != allDone(ticket) {
			t.Error("done", ticket)
		}
		if !allDone(ticket) {
			return
		}
		done++
		for index := -1; index <= len(ticket); index++ {
			for _, event := range append(badEvents, events...) {
				if then, ok := impl.TicketDo(ticket, index, event); ok || !slices.Equal(then, ticket) {
					t.Error("changed", ticket, index, event, then)
				}
			}
		}
		for i := range ticket {
			for _, state := range []int{impl.StOrdered, impl.StFired, impl.StCooked} {
				if impl.TicketDone(withState(ticket, i, state)) {
					t.Error("one is left", ticket, i, state)
				}
			}
		}
	})
	if done < 1000 {
		t.Error("too few", done)
	}
	if !impl.TicketDone(nil) || !impl.TicketDone([]impl.Order{}) {
		t.Error("no dishes")
	}
	refusesBadTickets(t, func(ticket []impl.Order) bool { return !impl.TicketDone(ticket) })
}

func TestP64KitchensMayBeEmpty(t *testing.T) {
	forSeeds(t, 500, func(t *testing.T, r *rand.Rand) {
		kitchen := randomKitchen(r)
		for len(kitchen) > 0 {
			if !impl.KitchenValid(kitchen) {
				t.Error("valid", kitchen)
			}
			kitchen = kitchen[1:]
		}
		if !impl.KitchenValid(kitchen) || !impl.KitchenValid(nil) {
			t.Error("empty", kitchen)
		}
	})
	if !impl.KitchenValid(fullKitchen()) || impl.KitchenValid(append(fullKitchen(), nil)) {
		t.Error("as many as there may be")
	}
	refusesBadKitchens(t, func(kitchen [][]impl.Order) bool { return !impl.KitchenValid(kitchen) })
}

func TestP65WhoOrderedFirstIsFiredFirst(t *testing.T) {
	later, none := 0, 0
	forSeeds(t, 3000, func(t *testing.T, r *rand.Rand) {
		kitchen := randomKitchen(r)
		next, dish := impl.NextFire(kitchen)
		for i, ticket := range kitchen {
			for _, k := range canFire(ticket) {
				if next == -1 || i < next || i == next && k < dish {
					t.Error("before it", kitchen, next, dish, i, k)
				}
			}
		}
		if next == -1 {
			none++
			if dish != -1 {
				t.Error("none", kitchen, next, dish)
			}
			return
		}
		if !slices.Contains(canFire(kitchen[next]), dish) {
			t.Error("cannot be fired", kitchen, next, dish)
		}
		later += oneIf(next > 0 && dish > 0)
	})
	if later < 100 || none < 100 {
		t.Error("too few of a kind", later, none)
	}
	refusesBadKitchens(t, func(kitchen [][]impl.Order) bool {
		next, dish := impl.NextFire(kitchen)
		return next == -1 && dish == -1
	})
}

func TestP66WorkIsWorkOfTickets(t *testing.T) {
	idle := 0
	forSeeds(t, 2000, func(t *testing.T, r *rand.Rand) {
		kitchen := randomKitchen(r)
		sum, done := 0, true
		for _, ticket := range kitchen {
			alone := impl.WorkLeft([][]impl.Order{ticket})
			sum += alone
			done = done && impl.TicketDone(ticket)
			if (alone == 0) != allDone(ticket) {
				t.Error("a ticket", ticket, alone)
			}
		}
		left := impl.WorkLeft(kitchen)
		if left != sum || left != workOf(kitchen) || (left == 0) != done {
			t.Error("together", kitchen, left, sum)
		}
		idle += oneIf(done && len(kitchen) > 0)
	})
	if idle < 20 {
		t.Error("too few that are done", idle)
	}
	refusesBadKitchens(t, func(kitchen [][]impl.Order) bool { return impl.WorkLeft(kitchen) == -1 })
}
