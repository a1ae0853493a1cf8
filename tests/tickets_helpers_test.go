package tests

import (
	"math"
	"math/rand/v2"
	"slices"
	"strings"

	"loop.example/restaurantkitchen/impl"
)

// states has a letter for each state, at its number: ordered, fired, cooked, served and taken back.
const states = "ofcst"

// events are all events, by their numbers.
var events = []int{impl.EvFire, impl.EvCook, impl.EvServe, impl.EvTake}

// badEvents are numbers of which there is no event.
var badEvents = []int{-1, 4, 5, math.MinInt, math.MaxInt}

// ticketOf returns the ticket of a text with a course and the letter of a state for each dish, as in "0s 0o 1t".
func ticketOf(text string) []impl.Order {
	var ticket []impl.Order
	for _, dish := range strings.Fields(text) {
		ticket = append(ticket, impl.Order{Course: int(dish[0] - '0'), State: strings.IndexByte(states, dish[1])})
	}
	return ticket
}

// kitchenOf returns the kitchen of the texts of its tickets.
func kitchenOf(texts ...string) [][]impl.Order {
	kitchen := make([][]impl.Order, len(texts))
	for i, text := range texts {
		kitchen[i] = ticketOf(text)
	}
	return kitchen
}

func fullKitchen() [][]impl.Order {
	return kitchenOf("2o 1o 0o 2o 1o 0o", "0o 0o 0o 0o 0o 0o", "2o 2o 2o 2o 2o 2o", "0o 0o 1o 1o 2o 2o")
}

// randomTicket returns a valid ticket of at most so many dishes, of which those before some course are done, and those behind it are not fired.
func randomTicket(r *rand.Rand, many int) []impl.Order {
	ticket := make([]impl.Order, between(r, 0, many))
	now := between(r, 0, impl.MaxCourse+1)
	for i := range ticket {
		course := between(r, 0, impl.MaxCourse)
		may := states
		if course < now {
			may = "st"
		}
		if course > now {
			may = "ot"
		}
		ticket[i] = impl.Order{Course: course, State: strings.IndexByte(states, may[r.IntN(len(may))])}
	}
	return ticket
}

// randomKitchen returns a valid kitchen, of which some tickets are done.
func randomKitchen(r *rand.Rand) [][]impl.Order {
	kitchen := make([][]impl.Order, between(r, 0, impl.MaxTickets))
	for i := range kitchen {
		kitchen[i] = randomTicket(r, impl.MaxOrders)
	}
	return kitchen
}

// eachTicket calls a check with every list of so many dishes, valid or not, each of a course and in a state that there are.
func eachTicket(many int, check func(ticket []impl.Order)) {
	ticket := make([]impl.Order, many)
	eachList(many, (impl.MaxCourse+1)*len(states)-1, func(list []int) {
		for i, n := range list {
			ticket[i] = impl.Order{Course: n / len(states), State: n % len(states)}
		}
		check(ticket)
	})
}

// eachValid calls a check with every valid ticket of at most so many dishes.
func eachValid(most int, check func(ticket []impl.Order)) {
	for many := range most + 1 {
		eachTicket(many, func(ticket []impl.Order) {
			if inCourse(ticket) {
				check(ticket)
			}
		})
	}
}

func isState(x impl.Order, letters string) bool {
	return strings.IndexByte(letters, states[x.State]) >= 0
}

// inCourse tells, pair by pair, whether nothing was fired before a dish of an earlier course was served or taken back.
func inCourse(ticket []impl.Order) bool {
	for _, x := range ticket {
		for _, y := range ticket {
			if x.Course < y.Course && isState(x, "ofc") && isState(y, "fcs") {
				return false
			}
		}
	}
	return true
}

// canFire tells, pair by pair, which dishes of a valid ticket can be fired.
func canFire(ticket []impl.Order) []int {
	var can []int
	for i, x := range ticket {
		waits := slices.ContainsFunc(ticket, func(y impl.Order) bool { return y.Course < x.Course && isState(y, "ofc") })
		if isState(x, "o") && !waits {
			can = append(can, i)
		}
	}
	return can
}

func allDone(ticket []impl.Order) bool {
	return !slices.ContainsFunc(ticket, func(x impl.Order) bool { return isState(x, "ofc") })
}

// workOn returns a valid kitchen after a piece of work on the dish that comes first by its state, its ticket and its place; false if there is none.
func workOn(kitchen [][]impl.Order) ([][]impl.Order, bool) {
	kitchen = copyKitchen(kitchen)
	for _, letter := range []string{"c", "f", "o"} {
		for _, ticket := range kitchen {
			can := canFire(ticket)
			for i, x := range ticket {
				if isState(x, letter) && (letter != "o" || slices.Contains(can, i)) {
					ticket[i].State++
					return kitchen, true
				}
			}
		}
	}
	return kitchen, false
}

// workOf tells how many pieces of work there are, dish by dish.
func workOf(kitchen [][]impl.Order) int {
	left := 0
	for _, ticket := range kitchen {
		for _, x := range ticket {
			left += []int{3, 2, 1, 0, 0}[x.State]
		}
	}
	return left
}

// badTickets returns tickets that are not valid, each with one fault, by what is wrong.
func badTickets() map[string][]impl.Order {
	bad := map[string][]impl.Order{
		"one too many":               make([]impl.Order, impl.MaxOrders+1),
		"many too many":              make([]impl.Order, 100),
		"one too many, all served":   ticketOf("0s 0s 0s 0s 0s 0s 0s"),
		"fired too early":            ticketOf("0o 1f"),
		"cooked too early":           ticketOf("0o 1c"),
		"served too early":           ticketOf("0o 1s"),
		"while one is fired":         ticketOf("0f 1f"),
		"while one is cooked":        ticketOf("0c 1f"),
		"served while one is cooked": ticketOf("0c 1s"),
		"behind it on the ticket":    ticketOf("1f 0o"),
		"two courses later":          ticketOf("0o 2f"),
		"a course before was taken":  ticketOf("0o 1t 2f"),
		"one of a course is left":    ticketOf("0s 0t 0o 0s 1s 1t"),
		"the last of three courses":  ticketOf("0s 1o 2s"),
		"all others are done":        ticketOf("2s 2s 2s 1s 1s 0c"),
	}
	for name, x := range map[string]impl.Order{
		"course below 0":       {Course: -1},
		"no such course":       {Course: impl.MaxCourse + 1},
		"course far below 0":   {Course: math.MinInt},
		"course far past":      {Course: math.MaxInt},
		"state below 0":        {State: -1},
		"no such state":        {State: 5},
		"state far below 0":    {State: math.MinInt},
		"state far past":       {State: math.MaxInt},
		"taken of no course":   {Course: 3, State: impl.StTaken},
		"served of no course":  {Course: -1, State: impl.StServed},
		"last course, no such": {Course: impl.MaxCourse, State: 5},
	} {
		bad[name] = []impl.Order{x}
		bad[name+", the first one"] = append([]impl.Order{x}, ticketOf("0s 1o 2o")...)
		bad[name+", the last one"] = append(ticketOf("0s 1o 2o"), x)
	}
	return bad
}

// badKitchens returns kitchens that are not valid, each with one fault, by what is wrong.
func badKitchens() map[string][][]impl.Order {
	bad := map[string][][]impl.Order{
		"one ticket too many":   append(fullKitchen(), nil),
		"many tickets too many": make([][]impl.Order, 100),
	}
	for name, ticket := range badTickets() {
		bad[name+", alone"] = [][]impl.Order{ticket}
		bad[name+", the first ticket"] = append([][]impl.Order{ticket}, kitchenOf("0o 1o", "0c")...)
		bad[name+", the last ticket"] = append(kitchenOf("0c", "0o 1o"), ticket)
	}
	return bad
}

// withOrder returns a copy of a ticket with another dish at an index.
func withOrder(ticket []impl.Order, index int, x impl.Order) []impl.Order {
	ticket = slices.Clone(ticket)
	ticket[index] = x
	return ticket
}

// withState returns a copy of a ticket with a dish in another state.
func withState(ticket []impl.Order, index, state int) []impl.Order {
	return withOrder(ticket, index, impl.Order{Course: ticket[index].Course, State: state})
}

func copyKitchen(kitchen [][]impl.Order) [][]impl.Order {
	kitchen = slices.Clone(kitchen)
	for i, ticket := range kitchen {
		kitchen[i] = slices.Clone(ticket)
	}
	return kitchen
}

func sameKitchen(kitchen, other [][]impl.Order) bool {
	return slices.EqualFunc(kitchen, other, slices.Equal[[]impl.Order])
}

// spoilTicket writes over all memory of a ticket, its spare capacity too.
func spoilTicket(ticket []impl.Order) {
	ticket = ticket[:cap(ticket)]
	for i := range ticket {
		ticket[i] = impl.Order{Course: -77, State: -77}
	}
}

// spoilKitchen writes over all memory of a kitchen, its spare capacity too.
func spoilKitchen(kitchen [][]impl.Order) {
	kitchen = kitchen[:cap(kitchen)]
	for i, ticket := range kitchen {
		spoilTicket(ticket)
		kitchen[i] = nil
	}
}
