package tests

import (
	"math"
	"math/rand/v2"
	"slices"
	"testing"

	"loop.example/restaurantkitchen/impl"
)

// goodTickets are valid tickets, with what can be fired of them, and their course.
var goodTickets = map[string]struct {
	text   string
	may    []int
	course int
}{
	"no dishes":                      {"", nil, -1},
	"one":                            {"0o", []int{0}, 0},
	"one of the last course":         {"2o", []int{0}, 2},
	"two courses":                    {"0o 0o 1o", []int{0, 1}, 0},
	"courses from the end":           {"2o 1o 0o 2o 1o 0o", []int{2, 5}, 0},
	"one is fired":                   {"0f 0o 1o", []int{1}, 0},
	"all of it are fired":            {"0f 0f 1o", nil, 0},
	"one is cooked":                  {"0c 1o 0o", []int{2}, 0},
	"one is served":                  {"0s 0o 1o", []int{1}, 0},
	"one waits for a cooked one":     {"0s 0c 1o", nil, 0},
	"a course was served":            {"0s 1o 0s 1o 2o", []int{1, 3}, 1},
	"a course was taken":             {"0t 1o 0t 1o", []int{1, 3}, 1},
	"a course was taken, then fired": {"0t 0t 1f 2o 1o", []int{4}, 1},
	"one served, one taken":          {"0t 1o 0s", []int{1}, 1},
	"two courses were taken":         {"1t 0t 2o", []int{2}, 2},
	"a course between was taken":     {"0o 1t 2o", []int{0}, 0},
	"served, taken, ordered":         {"0s 1t 2o", []int{2}, 2},
	"the last course was taken":      {"0o 2t 2t", []int{0}, 0},
	"taken while one waits":          {"0f 1t 2o", nil, 0},
	"no dish of the course between":  {"0s 2o 2f", []int{1}, 2},
	"no dish of the first course":    {"1c 2o", nil, 1},
	"only the last course":           {"2f 2c 2s 2t 2o", []int{4}, 2},
	"all served":                     {"0s 1s 2s 0s 1s 2s", nil, -1},
	"all taken":                      {"2t 1t 0t", nil, -1},
	"all served or taken":            {"0t 1s 2t 0s", nil, -1},
	"the last dish is left":          {"0s 0s 1s 1t 2s 2c", nil, 2},
	"all states of one course":       {"1t 1s 1c 1f 1o 2o", []int{4}, 1},
}

func TestTicketValid(t *testing.T) {
	for name, x := range goodTickets {
		if !impl.TicketValid(ticketOf(x.text)) {
			t.Error(name)
		}
	}
	if !impl.TicketValid([]impl.Order{}) {
		t.Error("empty")
	}
	for name, ticket := range badTickets() {
		if impl.TicketValid(ticket) {
			t.Error(name)
		}
	}
	for many := range 5 {
		eachTicket(many, func(ticket []impl.Order) {
			if impl.TicketValid(ticket) != inCourse(ticket) {
				t.Error(ticket)
			}
		})
	}
}

func TestTicketNew(t *testing.T) {
	for _, x := range []struct {
		courses []int
		text    string
	}{
		{nil, ""},
		{[]int{}, ""},
		{[]int{0}, "0o"},
		{[]int{2}, "2o"},
		{[]int{0, 0, 1}, "0o 0o 1o"},
		{[]int{2, 0, 1, 0, 2, 1}, "2o 0o 1o 0o 2o 1o"},
	} {
		if ticket := impl.TicketNew(x.courses); !slices.Equal(ticket, ticketOf(x.text)) {
			t.Error(x.courses, ticket)
		}
	}
	for _, courses := range [][]int{{3}, {-1}, {0, 1, 3}, {-1, 1, 1}, {math.MaxInt}, {0, math.MinInt}, make([]int, impl.MaxOrders+1), make([]int, 100), {0, 0, 0, 0, 0, 3}} {
		if ticket := impl.TicketNew(courses); ticket != nil {
			t.Error(courses, ticket)
		}
	}
}

func TestTicketDo(t *testing.T) {
	for name, x := range map[string]struct {
		text         string
		index, event int
		then         string
	}{
		"fire":                           {"0o 0o 1o", 1, impl.EvFire, "0o 0f 1o"},
		"cook":                           {"0o 0f 1o", 1, impl.EvCook, "0o 0c 1o"},
		"serve":                          {"0o 0c 1o", 1, impl.EvServe, "0o 0s 1o"},
		"take what is ordered":           {"0o 1o", 0, impl.EvTake, "0t 1o"},
		"take what was fired":            {"0f 1o", 0, impl.EvTake, "0t 1o"},
		"take what is cooked":            {"0c 1o", 0, impl.EvTake, "0t 1o"},
		"take of a later course":         {"0o 1o 2o", 2, impl.EvTake, "0o 1o 2t"},
		"take while another one is open": {"0f 1o", 1, impl.EvTake, "0f 1t"},
		"fire behind a served course":    {"0s 0s 1o", 2, impl.EvFire, "0s 0s 1f"},
		"fire behind a taken course":     {"1o 0t 0t", 0, impl.EvFire, "1f 0t 0t"},
		"fire behind two taken courses":  {"0t 1t 2o", 2, impl.EvFire, "0t 1t 2f"},
		"fire behind a course between":   {"0s 1t 2o", 2, impl.EvFire, "0s 1t 2f"},
		"fire one more of the course":    {"1f 1o 1s", 1, impl.EvFire, "1f 1f 1s"},
		"serve the last one":             {"0s 1s 2c", 2, impl.EvServe, "0s 1s 2s"},
	} {
		if then, ok := impl.TicketDo(ticketOf(x.text), x.index, x.event); !ok || !slices.Equal(then, ticketOf(x.then)) {
			t.Error(name, then, ok)
		}
	}
	for name, x := range map[string]struct {
		text         string
		index, event int
	}{
		"a course too early":            {"0o 0o 1o", 2, impl.EvFire},
		"while one is fired":            {"0s 0f 1o", 2, impl.EvFire},
		"while one is cooked":           {"1o 0c 0t", 0, impl.EvFire},
		"two courses too early":         {"0o 2o", 1, impl.EvFire},
		"a course between was taken":    {"0o 1t 2o", 2, impl.EvFire},
		"one of the course is left":     {"0t 0o 0t 1o", 3, impl.EvFire},
		"cooked before it was fired":    {"0o", 0, impl.EvCook},
		"served before it is cooked":    {"0f", 0, impl.EvServe},
		"served at once":                {"0o", 0, impl.EvServe},
		"fired once more":               {"0f", 0, impl.EvFire},
		"fired again":                   {"0s", 0, impl.EvFire},
		"fired after it was taken":      {"0t", 0, impl.EvFire},
		"cooked once more":              {"0c", 0, impl.EvCook},
		"served once more":              {"0s", 0, impl.EvServe},
		"taken after it was served":     {"0s 0o", 0, impl.EvTake},
		"taken once more":               {"0t 0o", 0, impl.EvTake},
		"no dishes":                     {"", 0, impl.EvFire},
		"an index below 0":              {"0o 0o", -1, impl.EvFire},
		"an index past the end":         {"0o 0o", 2, impl.EvTake},
		"an index far below 0":          {"0o 0o", math.MinInt, impl.EvTake},
		"an index far past the end":     {"0o 0o", math.MaxInt, impl.EvFire},
		"an index past the end, full":   {"0o 0o 0o 0o 0o 0o", 6, impl.EvFire},
		"an index and an event of none": {"0o", 1, 4},
	} {
		if then, ok := impl.TicketDo(ticketOf(x.text), x.index, x.event); ok || !slices.Equal(then, ticketOf(x.text)) {
			t.Error(name, then, ok)
		}
	}
}

func TestTicketDoFromEveryState(t *testing.T) {
	// For each event, the letters of the states to which it leads from each state, or a hyphen.
	leads := []string{"f----", "-c---", "--s--", "ttt--"}
	for event, row := range leads {
		for from := range states {
			ticket := []impl.Order{{Course: 1, State: from}}
			then, ok := impl.TicketDo(ticket, 0, event)
			if may := row[from] != '-'; ok != may {
				t.Error(event, from, ok)
			}
			want := ticket
			if ok {
				want = ticketOf("1" + row[from:from+1])
			}
			if !slices.Equal(then, want) {
				t.Error(event, from, then)
			}
		}
	}
	for from, letter := range states {
		for _, event := range badEvents {
			ticket := ticketOf("1" + string(letter))
			if then, ok := impl.TicketDo(ticket, 0, event); ok || !slices.Equal(then, ticket) {
				t.Error(event, from, then, ok)
			}
		}
	}
	for name, ticket := range badTickets() {
		for index := -1; index <= len(ticket); index++ {
			for _, event := range append(badEvents, events...) {
				if then, ok := impl.TicketDo(ticket, index, event); ok || then != nil {
					t.Error(name, index, event, then, ok)
				}
			}
		}
	}
}

func TestTicketMay(t *testing.T) {
	for name, x := range goodTickets {
		if may := impl.TicketMay(ticketOf(x.text)); !slices.Equal(may, x.may) {
			t.Error(name, may)
		}
	}
	for name, ticket := range badTickets() {
		if may := impl.TicketMay(ticket); may != nil {
			t.Error(name, may)
		}
	}
}

func TestTicketCourse(t *testing.T) {
	for name, x := range goodTickets {
		if course := impl.TicketCourse(ticketOf(x.text)); course != x.course {
			t.Error(name, course)
		}
	}
	for name, ticket := range badTickets() {
		if course := impl.TicketCourse(ticket); course != -1 {
			t.Error(name, course)
		}
	}
}

func TestTicketDone(t *testing.T) {
	for name, x := range goodTickets {
		if done := impl.TicketDone(ticketOf(x.text)); done != (x.course == -1) {
			t.Error(name, done)
		}
	}
	for name, ticket := range badTickets() {
		if impl.TicketDone(ticket) {
			t.Error(name)
		}
	}
}

func TestKitchenValid(t *testing.T) {
	for _, kitchen := range [][][]impl.Order{nil, {}, {nil}, make([][]impl.Order, impl.MaxTickets), kitchenOf("0o 1o", "", "0t 1f"), fullKitchen()} {
		if !impl.KitchenValid(kitchen) {
			t.Error(kitchen)
		}
	}
	// What one ticket waits for is nothing to another one.
	if !impl.KitchenValid(kitchenOf("0o", "1f", "0c 1o", "2s")) {
		t.Error("courses of other tickets")
	}
	for name, kitchen := range badKitchens() {
		if impl.KitchenValid(kitchen) {
			t.Error(name)
		}
	}
}

func TestNextFire(t *testing.T) {
	for name, x := range map[string]struct {
		kitchen       [][]impl.Order
		ticket, index int
	}{
		"no tickets":                    {nil, -1, -1},
		"no dishes":                     {kitchenOf("", "", ""), -1, -1},
		"one":                           {kitchenOf("0o"), 0, 0},
		"behind an empty ticket":        {kitchenOf("", "0o"), 1, 0},
		"the first ticket":              {kitchenOf("1o 0o 0o", "0o"), 0, 1},
		"the first one waits":           {kitchenOf("0f 1o", "0o 0o"), 1, 0},
		"the first one is done":         {kitchenOf("0s 1t", "1t 2o 1s"), 1, 1},
		"a course was taken":            {kitchenOf("1o 0t 1o"), 0, 0},
		"a later course of the first":   {kitchenOf("0s 2o 1o", "0o"), 0, 2},
		"the last of the last":          {kitchenOf("0f", "0c", "", "0c 0f 1o 0s 0t 0o"), 3, 5},
		"all wait":                      {kitchenOf("0f 1o", "0c 1o 2o", "1f 2o"), -1, -1},
		"all done":                      {kitchenOf("0s 1t", "2s"), -1, -1},
		"all full":                      {fullKitchen(), 0, 2},
		"something is cooked elsewhere": {kitchenOf("0c", "0o"), 1, 0},
	} {
		if ticket, index := impl.NextFire(x.kitchen); ticket != x.ticket || index != x.index {
			t.Error(name, ticket, index)
		}
	}
	for name, kitchen := range badKitchens() {
		if ticket, index := impl.NextFire(kitchen); ticket != -1 || index != -1 {
			t.Error(name, ticket, index)
		}
	}
}

func TestWorkStep(t *testing.T) {
	for name, x := range map[string]struct {
		kitchen, then [][]impl.Order
	}{
		"fires":                         {kitchenOf("1o 0o 0o", "0o"), kitchenOf("1o 0f 0o", "0o")},
		"cooks before it fires":         {kitchenOf("0o 0o", "0o 0f"), kitchenOf("0o 0o", "0o 0c")},
		"serves before it fires":        {kitchenOf("0o 0o", "0o 0c"), kitchenOf("0o 0o", "0o 0s")},
		"serves before it cooks":        {kitchenOf("0f 0o", "0f", "0o 0c 0c"), kitchenOf("0f 0o", "0f", "0o 0s 0c")},
		"serves before it cooks beside": {kitchenOf("0f 0c"), kitchenOf("0f 0s")},
		"serves the first ticket first": {kitchenOf("0o 0c", "0c"), kitchenOf("0o 0s", "0c")},
		"cooks the first ticket first":  {kitchenOf("0o 0f 0f", "0f"), kitchenOf("0o 0c 0f", "0f")},
		"fires another ticket":          {kitchenOf("", "0s 1t", "1t 2o 1s", "0o"), kitchenOf("", "0s 1t", "1t 2f 1s", "0o")},
		"fires behind a taken course":   {kitchenOf("2o 1o 0t 0t", "0o"), kitchenOf("2o 1f 0t 0t", "0o")},
		"fires behind taken courses":    {kitchenOf("0t 1t 2o"), kitchenOf("0t 1t 2f")},
		"serves the last one":           {kitchenOf("0s 1t 2c"), kitchenOf("0s 1t 2s")},
		"full":                          {fullKitchen(), kitchenOf("2o 1o 0f 2o 1o 0o", "0o 0o 0o 0o 0o 0o", "2o 2o 2o 2o 2o 2o", "0o 0o 1o 1o 2o 2o")},
	} {
		if then, ok := impl.WorkStep(x.kitchen); !ok || !sameKitchen(then, x.then) {
			t.Error(name, then, ok)
		}
	}
	for name, kitchen := range map[string][][]impl.Order{
		"no tickets": nil,
		"no dishes":  kitchenOf("", ""),
		"served":     kitchenOf("0s 1s", "2s"),
		"taken":      kitchenOf("0t", "", "2t 1t"),
		"full":       kitchenOf("0s 1s 2s 0t 1t 2t", "0t 0t 0t 0t 0t 0t", "1s", ""),
	} {
		if then, ok := impl.WorkStep(kitchen); ok || !sameKitchen(then, kitchen) {
			t.Error(name, then, ok)
		}
	}
	for name, kitchen := range badKitchens() {
		if then, ok := impl.WorkStep(kitchen); ok || then != nil {
			t.Error(name, then, ok)
		}
	}
}

func TestWorkLeft(t *testing.T) {
	for name, x := range map[string]struct {
		kitchen [][]impl.Order
		left    int
	}{
		"no tickets": {nil, 0},
		"no dishes":  {kitchenOf("", ""), 0},
		"ordered":    {kitchenOf("0o"), 3},
		"fired":      {kitchenOf("0f"), 2},
		"cooked":     {kitchenOf("0c"), 1},
		"served":     {kitchenOf("0s"), 0},
		"taken":      {kitchenOf("0t"), 0},
		"together":   {kitchenOf("0o 0f 0c 0s 0t 1o", "", "2f"), 11},
		"full":       {fullKitchen(), 72},
	} {
		if left := impl.WorkLeft(x.kitchen); left != x.left {
			t.Error(name, left)
		}
	}
	for name, kitchen := range badKitchens() {
		if left := impl.WorkLeft(kitchen); left != -1 {
			t.Error(name, left)
		}
	}
}

func TestWorkRun(t *testing.T) {
	busy := kitchenOf("0t 0f 1o", "0o")
	for most, then := range [][][]impl.Order{
		busy,
		kitchenOf("0t 0c 1o", "0o"),
		kitchenOf("0t 0s 1o", "0o"),
		kitchenOf("0t 0s 1f", "0o"),
		kitchenOf("0t 0s 1c", "0o"),
		kitchenOf("0t 0s 1s", "0o"),
		kitchenOf("0t 0s 1s", "0f"),
		kitchenOf("0t 0s 1s", "0c"),
		kitchenOf("0t 0s 1s", "0s"),
	} {
		if got, done := impl.WorkRun(busy, most); done != most || !sameKitchen(got, then) {
			t.Error(most, got, done)
		}
	}
	for _, most := range []int{8, 9, 50, 99} {
		if got, done := impl.WorkRun(busy, most); done != 8 || !sameKitchen(got, kitchenOf("0t 0s 1s", "0s")) {
			t.Error(most, got, done)
		}
	}
	for _, most := range []int{-1, 100, math.MinInt, math.MaxInt} {
		if got, done := impl.WorkRun(busy, most); done != 0 || got != nil {
			t.Error(most, got, done)
		}
		if got, done := impl.WorkRun(nil, most); done != 0 || got != nil {
			t.Error("no tickets", most, got, done)
		}
	}
	for _, kitchen := range [][][]impl.Order{nil, kitchenOf("", ""), kitchenOf("0t", "1s 2t")} {
		for _, most := range []int{0, 1, 99} {
			if got, done := impl.WorkRun(kitchen, most); done != 0 || !sameKitchen(got, kitchen) {
				t.Error("nothing to do", kitchen, most, got, done)
			}
		}
	}
	for name, kitchen := range badKitchens() {
		for _, most := range []int{-1, 0, 1, 99, 100} {
			if got, done := impl.WorkRun(kitchen, most); done != 0 || got != nil {
				t.Error(name, most, got, done)
			}
		}
	}
}

func TestTicketsKeepTheirArguments(t *testing.T) {
	forSeeds(t, 300, func(t *testing.T, r *rand.Rand) {
		ticket := randomTicket(r, impl.MaxOrders)
		was := slices.Clone(ticket)
		for index := -1; index <= len(ticket); index++ {
			for _, event := range append(badEvents, events...) {
				then, _ := impl.TicketDo(ticket, index, event)
				spoilTicket(then)
				if !slices.Equal(ticket, was) {
					t.Error("ticket", was, ticket, index, event)
				}
			}
		}
		spoil(impl.TicketMay(ticket))
		impl.TicketCourse(ticket)
		impl.TicketDone(ticket)
		if !slices.Equal(ticket, was) {
			t.Error("ticket", was, ticket)
		}
		courses := amounts(r, between(r, 0, impl.MaxOrders), impl.MaxCourse)
		wasCourses := slices.Clone(courses)
		spoilTicket(impl.TicketNew(courses))
		if !slices.Equal(courses, wasCourses) {
			t.Error("courses", wasCourses, courses)
		}
	})
}

func TestKitchensKeepTheirArguments(t *testing.T) {
	forSeeds(t, 300, func(t *testing.T, r *rand.Rand) {
		kitchen := randomKitchen(r)
		was := copyKitchen(kitchen)
		step, _ := impl.WorkStep(kitchen)
		run, _ := impl.WorkRun(kitchen, between(r, 0, 20))
		none, _ := impl.WorkRun(kitchen, 0)
		impl.NextFire(kitchen)
		impl.WorkLeft(kitchen)
		for _, then := range [][][]impl.Order{step, run, none} {
			wasThen := copyKitchen(then)
			for i := range then {
				spoilTicket(then[i])
				if !sameKitchen(then[i+1:], wasThen[i+1:]) {
					t.Error("tickets share memory", was, i)
				}
			}
			spoilKitchen(then)
			if !sameKitchen(kitchen, was) {
				t.Error("kitchen", was, kitchen)
			}
		}
	})
}

func TestTicketsThatAreTheSameMemory(t *testing.T) {
	ticket := ticketOf("0o 1o")
	kitchen := [][]impl.Order{ticket[:1], ticket, ticket}
	if then, ok := impl.WorkStep(kitchen); !ok || !sameKitchen(then, kitchenOf("0f", "0o 1o", "0o 1o")) {
		t.Error("step", then, ok)
	}
	if then, done := impl.WorkRun(kitchen, 4); done != 4 || !sameKitchen(then, kitchenOf("0s", "0f 1o", "0o 1o")) {
		t.Error("run", then, done)
	}
	if !sameKitchen(kitchen, kitchenOf("0o", "0o 1o", "0o 1o")) {
		t.Error("kitchen", kitchen)
	}
}
