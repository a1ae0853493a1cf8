package tests

import (
	"math"
	"math/rand/v2"
	"slices"

	"loop.example/restaurantkitchen/impl"
)

// courses returns three dishes that are not in their best order.
func courses() []impl.Dish {
	return []impl.Dish{{Prep: 5, Cook: 2}, {Prep: 1, Cook: 6}, {Prep: 4, Cook: 4}}
}

// noMinutes returns dishes of which some take no time for one cook, or for both.
func noMinutes() []impl.Dish {
	return []impl.Dish{{Prep: 3, Cook: 0}, {}, {Prep: 0, Cook: 3}, {Prep: 2, Cook: 2}, {}, {Prep: 0, Cook: 1}}
}

func fullDishes() []impl.Dish {
	return slices.Repeat([]impl.Dish{{Prep: impl.MaxSpan, Cook: impl.MaxSpan}}, impl.MaxDishes)
}

// meal returns five tasks, of which two wait for one and one for two.
func meal() []impl.Task {
	return []impl.Task{{Span: 3}, {Span: 4}, {Span: 2, After: []int{0}}, {Span: 5, After: []int{0, 1}}, {Span: 1, After: []int{2}}}
}

// chain returns as many tasks as there may be, each of which waits for all that stand before it.
func chain() []impl.Task {
	list := make([]impl.Task, impl.MaxTasks)
	for i := range list {
		list[i] = impl.Task{Span: impl.MaxSpan, After: upTo(i)}
	}
	return list
}

// upTo returns the numbers 0 to many-1.
func upTo(many int) []int {
	list := make([]int, many)
	for i := range list {
		list[i] = i
	}
	return list
}

// randomDishes returns at most so many valid dishes, of which some take no time.
func randomDishes(r *rand.Rand, many int) []impl.Dish {
	list := make([]impl.Dish, between(r, 0, many))
	most := []int{1, 3, 9, impl.MaxSpan}[r.IntN(4)]
	for i := range list {
		list[i] = impl.Dish{Prep: between(r, 0, most), Cook: between(r, 0, most)}
	}
	return list
}

// randomSpans returns at most so many valid spans, of which some are equal or nothing.
func randomSpans(r *rand.Rand, many int) []int {
	return amounts(r, between(r, 0, many), []int{1, 3, 9, impl.MaxSpan}[r.IntN(4)])
}

// randomTasks returns at most so many valid tasks, each with a Span of at most so many minutes.
func randomTasks(r *rand.Rand, many, most int) []impl.Task {
	list := make([]impl.Task, between(r, 0, many))
	waits := between(r, 1, 4)
	for i := range list {
		list[i].Span = between(r, 0, most)
		for k := range i {
			if r.IntN(5) < waits {
				list[i].After = append(list[i].After, k)
			}
		}
	}
	return list
}

// eachOrder calls a check with every order of the indices 0 to many-1.
func eachOrder(many int, check func(order []int)) {
	var put func(order []int)
	put = func(order []int) {
		if len(order) == many {
			check(order)
			return
		}
		for k := range many {
			if !slices.Contains(order, k) {
				put(append(slices.Clone(order), k))
			}
		}
	}
	put(nil)
}

// eachList calls a check with every list of so many numbers in 0..most.
func eachList(many, most int, check func(list []int)) {
	list := make([]int, many)
	for {
		check(list)
		place := 0
		for place < many && list[place] == most {
			list[place] = 0
			place++
		}
		if place == many {
			return
		}
		list[place]++
	}
}

// flowEnds tells the ends by the dish up to which the first cook decides: from it on the second one has no pause.
func flowEnds(list []impl.Dish, order []int) []int {
	ends := make([]int, len(list))
	for k, index := range order {
		for from := range k + 1 {
			end := 0
			for _, i := range order[:from+1] {
				end += list[i].Prep
			}
			for _, i := range order[from : k+1] {
				end += list[i].Cook
			}
			ends[index] = max(ends[index], end)
		}
	}
	return ends
}

// otherWay returns dishes with Prep and Cook exchanged.
func otherWay(list []impl.Dish) []impl.Dish {
	list = slices.Clone(list)
	for i, x := range list {
		list[i] = impl.Dish{Prep: x.Cook, Cook: x.Prep}
	}
	return list
}

func reversed(list []int) []int {
	list = slices.Clone(list)
	slices.Reverse(list)
	return list
}

func greatest(list []int) int {
	most := 0
	for _, n := range list {
		most = max(most, n)
	}
	return most
}

// burnerEnd returns the greatest sum of the spans of a burner.
func burnerEnd(spans []int, on []int) int {
	end := 0
	for burner := range impl.MaxBurners {
		sum := 0
		for i, span := range spans {
			if on[i] == burner {
				sum += span
			}
		}
		end = max(end, sum)
	}
	return end
}

// waitsTogether tells how long dishes wait, pair by pair: each one for all that come behind it.
func waitsTogether(spans []int, order []int) int {
	waits := 0
	for k := range order {
		for _, behind := range order[k+1:] {
			waits += spans[behind]
		}
	}
	return waits
}

// eachWay calls a check with every way through tasks, each but the first one with the one before it in its After, from its end on.
func eachWay(list []impl.Task, check func(fromEnd []int)) {
	var walk func(fromEnd []int)
	walk = func(fromEnd []int) {
		check(fromEnd)
		for _, before := range list[fromEnd[len(fromEnd)-1]].After {
			walk(append(slices.Clone(fromEnd), before))
		}
	}
	for i := range list {
		walk([]int{i})
	}
}

func spanOf(list []impl.Task, way []int) int {
	span := 0
	for _, i := range way {
		span += list[i].Span
	}
	return span
}

func spansOf(list []impl.Task) []int {
	spans := make([]int, len(list))
	for i, x := range list {
		spans[i] = x.Span
	}
	return spans
}

// longestWays returns the greatest span of a way to the end of each task.
func longestWays(list []impl.Task) []int {
	longest := make([]int, len(list))
	eachWay(list, func(fromEnd []int) {
		longest[fromEnd[0]] = max(longest[fromEnd[0]], spanOf(list, fromEnd))
	})
	return longest
}

// startsMay tells, pair by pair, whether tasks may begin at such times.
func startsMay(list []impl.Task, starts []int) bool {
	for i := range list {
		for before := range list {
			if slices.Contains(list[i].After, before) && starts[before]+list[before].Span > starts[i] {
				return false
			}
		}
	}
	return true
}

// badDishes returns dishes that are not valid, each with one fault, by what is wrong.
func badDishes() map[string][]impl.Dish {
	bad := map[string][]impl.Dish{"one too many": append(fullDishes(), impl.Dish{}), "many too many": make([]impl.Dish, 100)}
	for name, x := range map[string]impl.Dish{
		"Prep below nothing":     {Prep: -1, Cook: 1},
		"Cook below nothing":     {Prep: 1, Cook: -1},
		"Prep too long":          {Prep: impl.MaxSpan + 1, Cook: 1},
		"Cook too long":          {Prep: 1, Cook: impl.MaxSpan + 1},
		"Prep far too long":      {Prep: math.MaxInt},
		"Cook far too long":      {Cook: math.MaxInt},
		"Prep far below nothing": {Prep: math.MinInt},
		"Cook far below nothing": {Cook: math.MinInt},
	} {
		bad[name] = []impl.Dish{x}
		bad[name+", the first one"] = append([]impl.Dish{x}, courses()...)
		bad[name+", the last one"] = append(courses(), x)
	}
	return bad
}

// badSpans returns spans that are not valid, each with one fault, by what is wrong.
func badSpans() map[string][]int {
	return map[string][]int{
		"one too many":        make([]int, impl.MaxDishes+1),
		"many too many":       make([]int, 100),
		"less than nothing":   {-1},
		"too long":            {impl.MaxSpan + 1},
		"far below nothing":   {math.MinInt},
		"far too long":        {math.MaxInt},
		"first below nothing": {-1, 2, 3},
		"last below nothing":  {2, 3, -1},
		"first too long":      {impl.MaxSpan + 1, 0, 0},
		"last too long":       {0, 0, 0, 0, 0, impl.MaxSpan + 1},
	}
}

// badOrders returns lists that are no orders of the indices 0 to 2, by what is wrong.
func badOrders() map[string][]int {
	return map[string][]int{
		"none":            nil,
		"one missing":     {0, 1},
		"one twice":       {0, 1, 1},
		"all the same":    {0, 0, 0},
		"one more":        {0, 1, 2, 3},
		"one once more":   {0, 1, 2, 0},
		"below 0":         {0, 1, -1},
		"past the end":    {0, 1, 3},
		"from 1 on":       {1, 2, 3},
		"far below 0":     {math.MinInt, 1, 2},
		"far past":        {0, math.MaxInt, 2},
		"far too many":    upTo(100),
		"no index":        {-1, -1, -1},
		"below 0 instead": {-3, -2, -1},
	}
}

// badBurners are numbers of burners that there may not be.
var badBurners = []int{0, -1, impl.MaxBurners + 1, 6, math.MinInt, math.MaxInt}

// badTasks returns tasks that are not valid, each with one fault, by what is wrong.
func badTasks() map[string][]impl.Task {
	bad := map[string][]impl.Task{
		"one too many":               append(chain(), impl.Task{}),
		"many too many":              make([]impl.Task, 100),
		"the first one waits":        append([]impl.Task{{After: []int{0}}}, meal()...),
		"the first one waits behind": {{After: []int{1}}, {}},
		"two wait for each other":    {{After: []int{1}}, {After: []int{0}}},
	}
	for name, x := range map[string]impl.Task{
		"less than nothing":     {Span: -1},
		"too long":              {Span: impl.MaxSpan + 1},
		"far below nothing":     {Span: math.MinInt},
		"far too long":          {Span: math.MaxInt},
		"itself":                {After: []int{5}},
		"behind it":             {After: []int{0, 6}},
		"below 0":               {After: []int{-1}},
		"below 0, and another":  {After: []int{-1, 2}},
		"far below 0":           {After: []int{math.MinInt}},
		"far past":              {After: []int{math.MaxInt}},
		"twice the same":        {After: []int{2, 2}},
		"descending":            {After: []int{3, 1}},
		"first and first again": {After: []int{0, 1, 0}},
		"twice the first":       {After: []int{0, 0}},
		"far too many":          {After: make([]int, 100)},
	} {
		bad[name] = append(meal(), x)
	}
	return bad
}

func copyTasks(list []impl.Task) []impl.Task {
	list = slices.Clone(list)
	for i, x := range list {
		list[i].After = slices.Clone(x.After)
	}
	return list
}

func sameTasks(list, other []impl.Task) bool {
	return slices.EqualFunc(list, other, func(x, y impl.Task) bool {
		return x.Span == y.Span && slices.Equal(x.After, y.After)
	})
}
