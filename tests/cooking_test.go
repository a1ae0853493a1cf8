package tests

import (
	"math"
	"math/rand/v2"
	"slices"
	"testing"

	"loop.example/restaurantkitchen/impl"
)

func TestDishesValid(t *testing.T) {
	good := map[string][]impl.Dish{
		"no dishes":     nil,
		"empty":         {},
		"no minutes":    {{}},
		"different":     courses(),
		"some nothing":  noMinutes(),
		"full":          fullDishes(),
		"greatest Prep": {{Prep: impl.MaxSpan}},
		"greatest Cook": {{Cook: impl.MaxSpan}},
	}
	for name, list := range good {
		if !impl.DishesValid(list) {
			t.Error(name)
		}
	}
	for name, list := range badDishes() {
		if impl.DishesValid(list) {
			t.Error(name)
		}
	}
}

func TestOrderOk(t *testing.T) {
	for _, order := range [][]int{nil, {}, {0}, {0, 1}, {1, 0}, {2, 0, 1}, {5, 4, 3, 2, 1, 0}, upTo(1000), reversed(upTo(1000))} {
		if !impl.OrderOk(order, len(order)) {
			t.Error(order)
		}
		for _, many := range []int{len(order) - 1, len(order) + 1, -1, -len(order) - 1, math.MinInt, math.MaxInt} {
			if impl.OrderOk(order, many) {
				t.Error(order, many)
			}
		}
	}
	for name, order := range badOrders() {
		if impl.OrderOk(order, 3) {
			t.Error(name)
		}
	}
	if impl.OrderOk(with(upTo(1000), 999, 0), 1000) || impl.OrderOk(with(upTo(1000), 0, 1000), 1000) {
		t.Error("a long one")
	}
}

func TestFlowEnds(t *testing.T) {
	for name, x := range map[string]struct {
		list  []impl.Dish
		order []int
		ends  []int
	}{
		"example":               {courses(), []int{0, 1, 2}, []int{7, 13, 17}},
		"the best one":          {courses(), []int{1, 2, 0}, []int{13, 7, 11}},
		"from the end":          {courses(), []int{2, 1, 0}, []int{16, 14, 8}},
		"no minutes":            {noMinutes(), upTo(6), []int{3, 3, 6, 8, 8, 9}},
		"no minutes, the best":  {noMinutes(), []int{2, 5, 3, 0, 1, 4}, []int{6, 6, 3, 6, 6, 4}},
		"one":                   {[]impl.Dish{{Prep: 2, Cook: 3}}, []int{0}, []int{5}},
		"one of no minutes":     {[]impl.Dish{{}}, []int{0}, []int{0}},
		"behind one that waits": {[]impl.Dish{{Prep: 1, Cook: 9}, {}}, []int{0, 1}, []int{10, 10}},
		"full":                  {fullDishes(), upTo(6), []int{60, 90, 120, 150, 180, 210}},
		"none":                  {nil, nil, nil},
	} {
		if ends := impl.FlowEnds(x.list, x.order); !slices.Equal(ends, x.ends) {
			t.Error(name, ends)
		}
		if end := impl.FlowEnd(x.list, x.order); end != greatest(x.ends) {
			t.Error(name, end)
		}
	}
	for name, list := range badDishes() {
		if impl.FlowEnds(list, upTo(len(list))) != nil || impl.FlowEnd(list, upTo(len(list))) != -1 || impl.FlowEnd(list, nil) != -1 {
			t.Error(name)
		}
	}
	for name, order := range badOrders() {
		if impl.FlowEnds(courses(), order) != nil || impl.FlowEnd(courses(), order) != -1 {
			t.Error(name)
		}
	}
	if impl.FlowEnds(nil, []int{0}) != nil || impl.FlowEnd(nil, []int{0}) != -1 {
		t.Error("an order of nothing")
	}
}

func TestFlowBest(t *testing.T) {
	for name, x := range map[string]struct {
		list  []impl.Dish
		order []int
		least int
	}{
		"example":            {courses(), []int{1, 2, 0}, 13},
		"no minutes":         {noMinutes(), []int{2, 5, 3, 0, 1, 4}, 6},
		"only no minutes":    {make([]impl.Dish, 3), []int{0, 1, 2}, 0},
		"equal ones":         {[]impl.Dish{{Prep: 2, Cook: 3}, {Prep: 2, Cook: 5}, {Prep: 1, Cook: 1}, {Prep: 4, Cook: 1}, {Prep: 1, Cook: 2}}, []int{4, 0, 1, 2, 3}, 13},
		"as long for both":   {[]impl.Dish{{Prep: 4, Cook: 4}, {Prep: 5, Cook: 6}, {Prep: 2, Cook: 2}, {Prep: 3, Cook: 4}}, []int{3, 1, 0, 2}, 20},
		"only short Preps":   {[]impl.Dish{{Prep: 3, Cook: 4}, {Prep: 2, Cook: 9}, {Prep: 1, Cook: 2}}, []int{2, 1, 0}, 16},
		"only others":        {[]impl.Dish{{Prep: 3, Cook: 1}, {Prep: 9, Cook: 3}, {Prep: 2, Cook: 2}}, []int{1, 2, 0}, 15},
		"one":                {[]impl.Dish{{Prep: 2, Cook: 3}}, []int{0}, 5},
		"full":               {fullDishes(), upTo(6), 210},
		"none":               {nil, nil, 0},
		"nothing to cook":    {[]impl.Dish{{Prep: 3}, {Prep: 2}, {Prep: 1}}, []int{0, 1, 2}, 6},
		"nothing to prepare": {[]impl.Dish{{Cook: 3}, {Cook: 2}, {Cook: 1}}, []int{0, 1, 2}, 6},
	} {
		if order := impl.FlowBest(x.list); !slices.Equal(order, x.order) {
			t.Error(name, order)
		}
		if least := impl.FlowLeast(x.list); least != x.least {
			t.Error(name, least)
		}
	}
	for name, list := range badDishes() {
		if impl.FlowBest(list) != nil || impl.FlowLeast(list) != -1 {
			t.Error(name)
		}
	}
}

func TestSpansValid(t *testing.T) {
	for _, spans := range [][]int{nil, {}, {0}, {impl.MaxSpan}, {0, 30, 1}, make([]int, impl.MaxDishes), slices.Repeat([]int{impl.MaxSpan}, impl.MaxDishes)} {
		if !impl.SpansValid(spans) {
			t.Error(spans)
		}
	}
	for name, spans := range badSpans() {
		if impl.SpansValid(spans) {
			t.Error(name)
		}
	}
}

func TestBurnOk(t *testing.T) {
	for _, x := range []struct {
		spans   []int
		burners int
		on      []int
		ok      bool
	}{
		{[]int{3, 2, 1}, 1, []int{0, 0, 0}, true},
		{[]int{3, 2, 1}, 2, []int{0, 1, 0}, true},
		{[]int{3, 2, 1}, 2, []int{1, 1, 1}, true},
		{[]int{3, 2, 1}, 3, []int{2, 1, 0}, true},
		{[]int{3}, 3, []int{2}, true},
		{nil, 1, nil, true},
		{nil, 3, []int{}, true},
		{[]int{3, 2, 1}, 1, []int{0, 0, 1}, false},
		{[]int{3, 2, 1}, 2, []int{2, 1, 0}, false},
		{[]int{3, 2, 1}, 3, []int{0, 0, 3}, false},
		{[]int{3, 2, 1}, 3, []int{-1, 0, 0}, false},
		{[]int{3, 2, 1}, 3, []int{0, math.MinInt, 0}, false},
		{[]int{3, 2, 1}, 3, []int{0, math.MaxInt, 0}, false},
		{[]int{3, 2, 1}, 2, []int{0, 1}, false},
		{[]int{3, 2, 1}, 2, []int{0, 1, 0, 0}, false},
		{[]int{3, 2, 1}, 2, nil, false},
		{nil, 2, []int{0}, false},
	} {
		if impl.BurnOk(x.spans, x.burners, x.on) != x.ok {
			t.Error(x)
		}
		if impl.BurnEnd(x.spans, x.burners, x.on) == -1 == x.ok {
			t.Error("end", x)
		}
	}
	for _, burners := range badBurners {
		if impl.BurnOk(nil, burners, nil) || impl.BurnOk([]int{3, 2}, burners, []int{0, 0}) {
			t.Error(burners)
		}
	}
	for name, spans := range badSpans() {
		if impl.BurnOk(spans, 2, make([]int, len(spans))) {
			t.Error(name)
		}
	}
}

func TestBurnEnd(t *testing.T) {
	for _, x := range []struct {
		spans   []int
		burners int
		on      []int
		end     int
	}{
		{[]int{3, 3, 2, 2, 2}, 2, []int{0, 1, 0, 1, 0}, 7},
		{[]int{3, 3, 2, 2, 2}, 2, []int{0, 0, 1, 1, 1}, 6},
		{[]int{3, 3, 2, 2, 2}, 3, []int{2, 2, 1, 1, 2}, 8},
		{[]int{3, 3, 2, 2, 2}, 1, []int{0, 0, 0, 0, 0}, 12},
		{[]int{0, 0}, 2, []int{1, 1}, 0},
		{[]int{7}, 3, []int{2}, 7},
		{nil, 3, nil, 0},
		{slices.Repeat([]int{impl.MaxSpan}, impl.MaxDishes), 3, make([]int, impl.MaxDishes), 180},
	} {
		if end := impl.BurnEnd(x.spans, x.burners, x.on); end != x.end {
			t.Error(x, end)
		}
	}
	for _, burners := range badBurners {
		if impl.BurnEnd(nil, burners, nil) != -1 || impl.BurnEnd([]int{3, 2}, burners, []int{0, 0}) != -1 {
			t.Error(burners)
		}
	}
	for name, spans := range badSpans() {
		if impl.BurnEnd(spans, 2, make([]int, len(spans))) != -1 {
			t.Error(name)
		}
	}
}

func TestBurnListAndLeast(t *testing.T) {
	for name, x := range map[string]struct {
		spans   []int
		burners int
		on      []int
		least   int
	}{
		"example":                  {[]int{3, 3, 2, 2, 2}, 2, []int{0, 1, 0, 1, 0}, 6},
		"three burners":            {[]int{3, 3, 2, 2, 2}, 3, []int{0, 1, 2, 2, 0}, 5},
		"one burner":               {[]int{3, 3, 2, 2, 2}, 1, []int{0, 0, 0, 0, 0}, 12},
		"as bad as can be":         {[]int{1, 1, 2}, 2, []int{0, 1, 0}, 2},
		"the longest last":         {[]int{4, 7, 2, 9}, 3, []int{0, 1, 2, 2}, 9},
		"spans of nothing":         {[]int{0, 0, 2, 0, 1}, 3, []int{0, 0, 0, 1, 1}, 2},
		"only nothing":             {[]int{0, 0, 0}, 3, []int{0, 0, 0}, 0},
		"more burners than dishes": {[]int{5, 4}, 3, []int{0, 1}, 5},
		"one dish":                 {[]int{5}, 3, []int{0}, 5},
		"no dishes":                {nil, 3, nil, 0},
		"full":                     {slices.Repeat([]int{impl.MaxSpan}, impl.MaxDishes), 3, []int{0, 1, 2, 0, 1, 2}, 60},
	} {
		if on := impl.BurnList(x.spans, x.burners); !slices.Equal(on, x.on) {
			t.Error(name, on)
		}
		if least := impl.BurnLeast(x.spans, x.burners); least != x.least {
			t.Error(name, least)
		}
	}
	for _, burners := range badBurners {
		if impl.BurnList([]int{3, 2}, burners) != nil || impl.BurnLeast([]int{3, 2}, burners) != -1 || impl.BurnLeast(nil, burners) != -1 {
			t.Error(burners)
		}
	}
	for name, spans := range badSpans() {
		for burners := 1; burners <= impl.MaxBurners; burners++ {
			if impl.BurnList(spans, burners) != nil || impl.BurnLeast(spans, burners) != -1 {
				t.Error(name, burners)
			}
		}
	}
}

func TestTogether(t *testing.T) {
	for name, x := range map[string]struct {
		spans []int
		order []int
		waits int
	}{
		"example":          {[]int{2, 5, 3}, []int{0, 1, 2}, 11},
		"the best one":     {[]int{2, 5, 3}, []int{1, 2, 0}, 7},
		"the longest last": {[]int{2, 5, 3}, []int{0, 2, 1}, 13},
		"some of nothing":  {[]int{0, 4, 0}, []int{0, 1, 2}, 4},
		"only nothing":     {[]int{0, 0, 0}, []int{2, 1, 0}, 0},
		"one":              {[]int{30}, []int{0}, 0},
		"none":             {nil, nil, 0},
		"full":             {slices.Repeat([]int{impl.MaxSpan}, impl.MaxDishes), upTo(6), 450},
	} {
		if waits := impl.TogetherWaits(x.spans, x.order); waits != x.waits {
			t.Error(name, waits)
		}
	}
	for name, x := range map[string]struct{ spans, order []int }{
		"example":     {[]int{2, 5, 3}, []int{1, 2, 0}},
		"equal ones":  {[]int{3, 5, 3, 5, 0}, []int{1, 3, 0, 2, 4}},
		"nothing":     {[]int{0, 1, 0}, []int{1, 0, 2}},
		"all equal":   {[]int{7, 7, 7, 7, 7, 7}, upTo(6)},
		"ascending":   {[]int{1, 2, 3, 4, 5, 6}, reversed(upTo(6))},
		"one":         {[]int{4}, []int{0}},
		"none":        {nil, nil},
		"none, empty": {[]int{}, nil},
	} {
		if order := impl.TogetherBest(x.spans); !slices.Equal(order, x.order) {
			t.Error(name, order)
		}
	}
	for name, spans := range badSpans() {
		if impl.TogetherWaits(spans, upTo(len(spans))) != -1 || impl.TogetherBest(spans) != nil {
			t.Error(name)
		}
	}
	for name, order := range badOrders() {
		if impl.TogetherWaits([]int{2, 5, 3}, order) != -1 {
			t.Error(name)
		}
	}
	if impl.TogetherWaits(nil, []int{0}) != -1 {
		t.Error("an order of nothing")
	}
}

func TestTasksValid(t *testing.T) {
	good := map[string][]impl.Task{
		"no tasks":       nil,
		"empty":          {},
		"no minutes":     {{}},
		"different":      meal(),
		"full":           chain(),
		"none waits":     make([]impl.Task, impl.MaxTasks),
		"an empty After": {{After: []int{}}},
	}
	for name, list := range good {
		if !impl.TasksValid(list) {
			t.Error(name)
		}
	}
	for name, list := range badTasks() {
		if impl.TasksValid(list) {
			t.Error(name)
		}
	}
}

func TestStartsOk(t *testing.T) {
	for _, x := range []struct {
		starts []int
		ok     bool
	}{
		{[]int{0, 0, 3, 4, 5}, true},
		{[]int{1, 0, 6, 4, 8}, true},
		{[]int{9, 100, 12, 9999, 14}, true},
		{[]int{0, 9999, 3, 4, 5}, false},
		{[]int{0, 9995, 3, 9999, 5}, true},
		{[]int{0, 9996, 3, 9999, 5}, false},
		{[]int{0, 0, 3, 10000, 5}, false},
		{[]int{0, 0, 3, 4, math.MaxInt}, false},
		{[]int{0, 0, 2, 4, 5}, false},
		{[]int{0, 0, 3, 3, 5}, false},
		{[]int{2, 0, 5, 4, 7}, false},
		{[]int{0, 0, 3, 4, 4}, false},
		{[]int{-1, 0, 3, 4, 5}, false},
		{[]int{math.MinInt, 0, 3, 4, 5}, false},
		{[]int{math.MaxInt, 0, 3, 4, 5}, false},
		{[]int{0, 0, 3, 4}, false},
		{[]int{0, 0, 3, 4, 5, 6}, false},
		{nil, false},
	} {
		if impl.StartsOk(meal(), x.starts) != x.ok {
			t.Error(x)
		}
	}
	if !impl.StartsOk(nil, nil) || impl.StartsOk(nil, []int{0}) {
		t.Error("no tasks")
	}
	for name, list := range badTasks() {
		starts := make([]int, len(list))
		for i := range starts {
			starts[i] = 99 * i
		}
		if impl.StartsOk(list, starts) || impl.StartsOk(list, nil) {
			t.Error(name)
		}
	}
}

func TestStartsAndLongestWay(t *testing.T) {
	for name, x := range map[string]struct {
		list        []impl.Task
		early, late []int
		end         int
		way         []int
	}{
		"example":             {meal(), []int{0, 0, 3, 4, 5}, []int{1, 0, 6, 4, 8}, 9, []int{1, 3}},
		"full":                {chain(), []int{0, 30, 60, 90, 120, 150, 180}, []int{0, 30, 60, 90, 120, 150, 180}, 210, upTo(7)},
		"none waits":          {[]impl.Task{{Span: 2}, {Span: 5}, {Span: 5}}, []int{0, 0, 0}, []int{3, 0, 0}, 5, []int{1}},
		"several ways":        {[]impl.Task{{Span: 2}, {Span: 2}, {Span: 1, After: []int{0, 1}}, {Span: 1, After: []int{0, 1}}, {After: []int{2, 3}}}, []int{0, 0, 2, 2, 3}, []int{0, 0, 2, 2, 3}, 3, []int{0, 2}},
		"nothing at 0":        {[]impl.Task{{}, {Span: 5, After: []int{0}}, {After: []int{1}}, {Span: 5}}, []int{0, 0, 5, 0}, []int{0, 0, 5, 0}, 5, []int{1}},
		"nothing in between":  {[]impl.Task{{Span: 2}, {After: []int{0}}, {Span: 3, After: []int{1}}}, []int{0, 2, 2}, []int{0, 2, 2}, 5, []int{0, 1, 2}},
		"nothing left out":    {[]impl.Task{{Span: 2}, {After: []int{0}}, {Span: 3, After: []int{0, 1}}}, []int{0, 2, 2}, []int{0, 2, 2}, 5, []int{0, 2}},
		"only nothing":        {[]impl.Task{{}, {After: []int{0}}, {After: []int{0, 1}}}, []int{0, 0, 0}, []int{0, 0, 0}, 0, []int{0}},
		"an earlier way ends": {[]impl.Task{{Span: 9}, {Span: 4}, {Span: 5, After: []int{1}}}, []int{0, 0, 4}, []int{0, 0, 4}, 9, []int{0}},
		"a later one waits":   {[]impl.Task{{}, {Span: 3}, {Span: 3}, {Span: 1, After: []int{0, 1, 2}}}, []int{0, 0, 0, 3}, []int{3, 0, 0, 3}, 4, []int{1, 3}},
		"one":                 {[]impl.Task{{Span: 7}}, []int{0}, []int{0}, 7, []int{0}},
		"none":                {nil, nil, nil, 0, nil},
	} {
		early, late := impl.StartsEarly(x.list), impl.StartsLate(x.list)
		if !slices.Equal(early, x.early) || !slices.Equal(late, x.late) {
			t.Error(name, early, late)
		}
		if end, way := impl.TasksEnd(x.list), impl.LongestWay(x.list); end != x.end || !slices.Equal(way, x.way) {
			t.Error(name, end, way)
		}
	}
	for name, list := range badTasks() {
		if impl.StartsEarly(list) != nil || impl.StartsLate(list) != nil || impl.TasksEnd(list) != -1 || impl.LongestWay(list) != nil {
			t.Error(name)
		}
	}
}

func TestCookingKeepsItsArguments(t *testing.T) {
	forSeeds(t, 300, func(t *testing.T, r *rand.Rand) {
		dishes, spans, tasks := randomDishes(r, 6), randomSpans(r, 6), randomTasks(r, 7, 9)
		wasDishes, wasSpans, wasTasks := slices.Clone(dishes), slices.Clone(spans), copyTasks(tasks)
		flow, together := r.Perm(len(dishes)), r.Perm(len(spans))
		wasFlow, wasTogether := slices.Clone(flow), slices.Clone(together)
		impl.FlowEnd(dishes, flow)
		impl.FlowLeast(dishes)
		impl.TogetherWaits(spans, together)
		results := [][]int{impl.FlowEnds(dishes, flow), impl.FlowBest(dishes), impl.BurnList(spans, 2), impl.TogetherBest(spans), impl.StartsEarly(tasks), impl.StartsLate(tasks), impl.LongestWay(tasks)}
		wasOn, wasEarly := slices.Clone(results[2]), slices.Clone(results[4])
		impl.BurnEnd(spans, 2, results[2])
		impl.BurnLeast(spans, 2)
		impl.StartsOk(tasks, results[4])
		if !slices.Equal(results[2], wasOn) || !slices.Equal(results[4], wasEarly) {
			t.Error("results that are arguments", results)
		}
		was := copyUse(results)
		for i := range results {
			spoil(results[i])
			if !sameUse(results[i+1:], was[i+1:]) {
				t.Error("results share memory", results, was)
			}
		}
		if !slices.Equal(dishes, wasDishes) || !slices.Equal(spans, wasSpans) || !sameTasks(tasks, wasTasks) || !slices.Equal(flow, wasFlow) || !slices.Equal(together, wasTogether) {
			t.Error("arguments", dishes, spans, tasks, flow, together)
		}
	})
}
