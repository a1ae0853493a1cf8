package tests

import (
	"math"
	"math/rand/v2"
	"slices"
	"testing"

	"loop.example/restaurantkitchen/impl"
)

func TestItemsValid(t *testing.T) {
	good := map[string][]impl.Item{
		"no items":    nil,
		"empty":       {},
		"one":         {{Marks: impl.MaxMark}},
		"empty parts": {{Parts: []impl.Part{}}},
		"example":     pantry(),
		"tallest":     tallest(),
		"greatest":    {{}, {Yield: impl.MaxMany, Parts: []impl.Part{{Of: 0, Many: impl.MaxMany}}}},
	}
	for name, list := range good {
		if !impl.ItemsValid(list) {
			t.Error(name)
		}
	}
	for name, list := range badLists() {
		if impl.ItemsValid(list) {
			t.Error(name)
		}
	}
}

// goodTexts are texts of items, and badTexts are not, each by one fault.
var goodTexts = []string{"0=!0", "0=!1", "0=!10", "0=!31", "1=4*6!0", "6=0*6,1*6,2*6!31", "4=0*2!0", "2=1*3,2*1!8", "1=2*1,3*1,4*1!9"}

var badTexts = []string{
	"", "=!", "0", "0=", "0!0", "0=0", "=!0", "0=!", "0!=0", "0==!0", "0=!!0", "!0=0",
	"00=!0", "0=!00", "0=!01", "+0=!0", "-0=!0", "0=!+1", "0=!-0", "0=!-1", "0=!32", "0=!100", "0=!99999999999999999999",
	" 0=!0", "0 =!0", "0=! 0", "0=!0 ", "0=!0\n", "0=!0\x00", "0=!0!", "0=!1x", "\xff0=!0", "0=!\u0661",
	"1=!0", "0=0*1!0", "7=0*1!0", "-1=0*1!0", "-1=!0", "01=0*1!0",
	"1=5*1!0", "1=-1*1!0", "1=0*0!0", "1=0*7!0", "1=0*-1!0", "1=00*1!0", "1=0*01!0", "1=0*+1!0",
	"1=1*1,0*1!0", "1=0*1,0*1!0", "1=0*1,1*1,2*1,3*1!0",
	"1=,!0", "1=0*1,!0", "1=,0*1!0", "1=0*1,,1*1!0", "1=0*1;1*1!0", "1=0*1 ,1*1!0",
	"1=*!0", "1=0*!0", "1=*1!0", "1=0!0", "1=0**1!0", "1=0*1*1!0", "1=0x1!0", "1=0*1!", "1=0*1", "1=0*1!0!0",
}

func TestItemText(t *testing.T) {
	for _, x := range []struct {
		item impl.Item
		text string
	}{
		{impl.Item{}, "0=!0"},
		{impl.Item{Marks: 31}, "0=!31"},
		{pantry()[2], "4=0*2!0"},
		{pantry()[3], "2=1*3,2*1!8"},
		{impl.Item{Yield: 1, Parts: []impl.Part{{Of: 4, Many: 6}}}, "1=4*6!0"},
		{impl.Item{Yield: 6, Parts: []impl.Part{{Of: 2, Many: 1}, {Of: 3, Many: 2}, {Of: 4, Many: 3}}, Marks: 16}, "6=2*1,3*2,4*3!16"},
	} {
		if got := impl.ItemText(x.item); got != x.text {
			t.Errorf("%v: %q", x.item, got)
		}
	}
	bad := badItems()
	bad["made from itself"] = impl.Item{Yield: 1, Parts: []impl.Part{{Of: impl.MaxItems - 1, Many: 1}}}
	for name, x := range bad {
		if s := impl.ItemText(x); s != "" {
			t.Error(name, s)
		}
	}
}

func TestReadItem(t *testing.T) {
	for _, s := range goodTexts {
		if x, ok := impl.ReadItem(s); !ok || impl.ItemText(x) != s {
			t.Errorf("%q: %v %v", s, x, ok)
		}
	}
	for _, s := range badTexts {
		if x, ok := impl.ReadItem(s); ok || !sameItem(x, impl.Item{}) {
			t.Errorf("%q: %v %v", s, x, ok)
		}
	}
	if x, ok := impl.ReadItem("6=0*1,2*3,4*5!16"); !ok || !sameItem(x, impl.Item{Yield: 6, Parts: []impl.Part{{Of: 0, Many: 1}, {Of: 2, Many: 3}, {Of: 4, Many: 5}}, Marks: 16}) {
		t.Error(x, ok)
	}
}

func TestUsesAndMarks(t *testing.T) {
	for i, want := range []struct{ uses, marks int }{{1, 1}, {2, 4}, {5, 1}, {15, 13}} {
		if uses, marks := impl.UsesOf(pantry(), i), impl.MarksOf(pantry(), i); uses != want.uses || marks != want.marks {
			t.Error(i, uses, marks)
		}
	}
	if impl.UsesOf(tallest(), 5) != 63 || impl.MarksOf(tallest(), 5) != impl.MaxMark {
		t.Error("parts of parts")
	}
	for _, index := range []int{-1, 4, 64, -64, math.MaxInt} {
		if impl.UsesOf(pantry(), index) != -1 || impl.MarksOf(pantry(), index) != -1 {
			t.Error(index)
		}
	}
	if impl.UsesOf(nil, 0) != -1 || impl.MarksOf(nil, 0) != -1 {
		t.Error("no items")
	}
	for name, list := range badLists() {
		if impl.UsesOf(list, 0) != -1 || impl.MarksOf(list, 0) != -1 {
			t.Error(name)
		}
	}
}

func TestFreeOf(t *testing.T) {
	for avoid, want := range map[int][]int{0: {2, 3}, 1: nil, 2: {2, 3}, 4: {2}, 8: {2}, 12: {2}, 16: {2, 3}, 18: {2, 3}, 31: nil, -1: nil, 32: nil} {
		if got := impl.FreeOf(pantry(), avoid); !slices.Equal(got, want) {
			t.Error(avoid, got)
		}
	}
	if len(impl.FreeOf(nil, 0)) != 0 {
		t.Error("no items")
	}
	for name, list := range badLists() {
		if impl.FreeOf(list, 0) != nil {
			t.Error(name)
		}
	}
}

func TestPlanOk(t *testing.T) {
	want, stock := []int{0, 0, 1, 5}, []int{1, 2, 0, 0}
	good := impl.Plan{Runs: []int{1, 7, 1, 3}, Left: []int{0, 0, 0, 1}}
	if !impl.PlanOk(pantry(), want, stock, good) || !impl.PlanOk(nil, nil, nil, impl.Plan{}) {
		t.Error("good plans")
	}
	most := impl.Plan{Runs: []int{maxRuns}, Left: []int{maxRuns + impl.MaxWant}}
	if !impl.PlanOk(pantry()[:1], []int{0}, []int{impl.MaxWant}, most) {
		t.Error("greatest numbers")
	}
	for i := range 4 {
		for _, more := range []int{-1, 1} {
			if impl.PlanOk(pantry(), want, stock, impl.Plan{Runs: with(good.Runs, i, good.Runs[i]+more), Left: good.Left}) {
				t.Error("other runs", i, more)
			}
			if impl.PlanOk(pantry(), want, stock, impl.Plan{Runs: good.Runs, Left: with(good.Left, i, good.Left[i]+more)}) {
				t.Error("other left", i, more)
			}
		}
	}
	if impl.PlanOk(pantry()[:1], []int{1}, []int{0}, impl.Plan{Runs: []int{0}, Left: []int{-1}}) {
		t.Error("less than nothing is left")
	}
	if impl.PlanOk(pantry()[:1], []int{0}, []int{2}, impl.Plan{Runs: []int{-1}, Left: []int{1}}) {
		t.Error("runs below 0")
	}
	if impl.PlanOk(pantry()[:1], []int{0}, []int{0}, impl.Plan{Runs: []int{maxRuns + 1}, Left: []int{maxRuns + 1}}) {
		t.Error("too many runs")
	}
	// These have numbers that would be right without the bounds of what is wanted and in stock.
	if impl.PlanOk(pantry()[:1], []int{51}, []int{0}, impl.Plan{Runs: []int{51}, Left: []int{0}}) || impl.PlanOk(pantry()[:1], []int{-1}, []int{0}, impl.Plan{Runs: []int{0}, Left: []int{1}}) {
		t.Error("wanted")
	}
	if impl.PlanOk(pantry()[:1], []int{0}, []int{51}, impl.Plan{Runs: []int{0}, Left: []int{51}}) || impl.PlanOk(pantry()[:1], []int{0}, []int{-1}, impl.Plan{Runs: []int{1}, Left: []int{0}}) {
		t.Error("in stock")
	}
}

func TestPlanOkRefusesOtherArguments(t *testing.T) {
	zeros := make([]int, 4)
	nothing := impl.Plan{Runs: zeros, Left: zeros}
	if !impl.PlanOk(pantry(), zeros, zeros, nothing) {
		t.Error("nothing for nothing")
	}
	for name, bad := range badAmounts(4, impl.MaxWant) {
		if impl.PlanOk(pantry(), bad, zeros, nothing) || impl.PlanOk(pantry(), zeros, bad, nothing) {
			t.Error(name)
		}
	}
	for name, bad := range badAmounts(4, maxRuns) {
		if impl.PlanOk(pantry(), zeros, zeros, impl.Plan{Runs: bad, Left: zeros}) || impl.PlanOk(pantry(), zeros, zeros, impl.Plan{Runs: zeros, Left: bad}) {
			t.Error(name)
		}
	}
	for name, list := range badLists() {
		zeros := make([]int, len(list))
		if impl.PlanOk(list, zeros, zeros, impl.Plan{Runs: zeros, Left: zeros}) {
			t.Error(name)
		}
	}
}

func TestPlanLeast(t *testing.T) {
	for name, x := range map[string]struct {
		want, stock []int
		plan        impl.Plan
	}{
		"example":        {[]int{0, 0, 1, 5}, []int{1, 2, 0, 0}, impl.Plan{Runs: []int{1, 7, 1, 3}, Left: []int{0, 0, 0, 1}}},
		"nothing wanted": {[]int{0, 0, 0, 0}, []int{1, 2, 3, 50}, impl.Plan{Runs: []int{0, 0, 0, 0}, Left: []int{1, 2, 3, 50}}},
		"all in stock":   {[]int{1, 2, 3, 4}, []int{1, 2, 3, 4}, impl.Plan{Runs: []int{0, 0, 0, 0}, Left: []int{0, 0, 0, 0}}},
		"more in stock":  {[]int{0, 0, 1, 2}, []int{0, 0, 9, 5}, impl.Plan{Runs: []int{0, 0, 0, 0}, Left: []int{0, 0, 8, 3}}},
		"whole batches":  {[]int{0, 0, 5, 0}, []int{0, 0, 0, 0}, impl.Plan{Runs: []int{4, 0, 2, 0}, Left: []int{0, 0, 3, 0}}},
		"just a batch":   {[]int{0, 0, 4, 0}, []int{0, 0, 0, 0}, impl.Plan{Runs: []int{2, 0, 1, 0}, Left: []int{0, 0, 0, 0}}},
		"part in stock":  {[]int{0, 0, 0, 2}, []int{0, 0, 1, 0}, impl.Plan{Runs: []int{0, 3, 0, 1}, Left: []int{0, 0, 0, 0}}},
	} {
		if p, ok := impl.PlanLeast(pantry(), x.want, x.stock); !ok || !samePlan(p, x.plan) {
			t.Error(name, p, ok)
		}
	}
	if p, ok := impl.PlanLeast(nil, nil, nil); !ok || len(p.Runs) != 0 || len(p.Left) != 0 {
		t.Error("no items", p, ok)
	}
}

func TestPlanLeastRefusesOtherArguments(t *testing.T) {
	refused := func(list []impl.Item, want, stock []int) bool {
		p, ok := impl.PlanLeast(list, want, stock)
		return !ok && p.Runs == nil && p.Left == nil
	}
	for name, bad := range badAmounts(4, impl.MaxWant) {
		if !refused(pantry(), bad, make([]int, 4)) || !refused(pantry(), make([]int, 4), bad) {
			t.Error(name)
		}
	}
	for name, list := range badLists() {
		if !refused(list, make([]int, len(list)), make([]int, len(list))) {
			t.Error(name)
		}
	}
}

func TestPricesValid(t *testing.T) {
	if !impl.PricesValid(pantry(), []int{0, impl.MaxPrice, 1, 0}) || !impl.PricesValid(nil, nil) {
		t.Error("good prices")
	}
	for name, bad := range badAmounts(4, impl.MaxPrice) {
		if impl.PricesValid(pantry(), bad) {
			t.Error(name)
		}
	}
	for name, list := range badLists() {
		if impl.PricesValid(list, make([]int, len(list))) {
			t.Error(name)
		}
	}
}

func TestPlanCost(t *testing.T) {
	prices := []int{2, 3, 9, 9}
	if got := impl.PlanCost(pantry(), prices, impl.Plan{Runs: []int{1, 7, 1, 3}}); got != 23 {
		t.Error("what is made adds nothing", got)
	}
	// What is left does not matter, whatever it is.
	if got := impl.PlanCost(pantry(), prices, impl.Plan{Runs: []int{maxRuns, 0, maxRuns, 0}, Left: []int{-1}}); got != 2*maxRuns {
		t.Error("greatest number", got)
	}
	if impl.PlanCost(nil, nil, impl.Plan{}) != 0 {
		t.Error("no items")
	}
	for name, bad := range badAmounts(4, impl.MaxPrice) {
		if impl.PlanCost(pantry(), bad, impl.Plan{Runs: make([]int, 4)}) != -1 {
			t.Error(name)
		}
	}
	for name, bad := range badAmounts(4, maxRuns) {
		if impl.PlanCost(pantry(), prices, impl.Plan{Runs: bad}) != -1 {
			t.Error(name)
		}
	}
	for name, list := range badLists() {
		if impl.PlanCost(list, make([]int, len(list)), impl.Plan{Runs: make([]int, len(list))}) != -1 {
			t.Error(name)
		}
	}
}

func TestUnitCost(t *testing.T) {
	for name, x := range map[string]struct {
		prices []int
		index  int
		cost   impl.Frac
	}{
		"bought":           {[]int{2, 3, 9, 9}, 1, impl.Frac{Num: 3, Den: 1}},
		"bought for free":  {[]int{0, 3, 9, 9}, 0, impl.Frac{Num: 0, Den: 1}},
		"made":             {[]int{2, 3, 9, 9}, 2, impl.Frac{Num: 1, Den: 1}},
		"made of the made": {[]int{2, 3, 9, 9}, 3, impl.Frac{Num: 5, Den: 1}},
		"half":             {[]int{1, 3, 0, 0}, 2, impl.Frac{Num: 1, Den: 2}},
		"a fraction":       {[]int{1, 3, 0, 0}, 3, impl.Frac{Num: 19, Den: 4}},
		"made for free":    {[]int{0, 0, 9, 9}, 3, impl.Frac{Num: 0, Den: 1}},
	} {
		if f, ok := impl.UnitCost(pantry(), x.prices, x.index); !ok || f != x.cost {
			t.Error(name, f, ok)
		}
	}
	refused := func(list []impl.Item, prices []int, index int) bool {
		f, ok := impl.UnitCost(list, prices, index)
		return !ok && f == impl.Frac{}
	}
	for _, index := range []int{-1, 4, math.MaxInt} {
		if !refused(pantry(), make([]int, 4), index) {
			t.Error(index)
		}
	}
	for name, bad := range badAmounts(4, impl.MaxPrice) {
		if !refused(pantry(), bad, 0) {
			t.Error(name)
		}
	}
	for name, list := range badLists() {
		if !refused(list, make([]int, len(list)), 0) {
			t.Error(name)
		}
	}
}

func TestMakeRun(t *testing.T) {
	for name, x := range map[string]struct {
		stock, runs, now []int
	}{
		"example":             {[]int{1, 2, 0, 0}, []int{1, 7, 1, 3}, []int{0, 0, 1, 6}},
		"nothing":             {[]int{1, 2, 50, 0}, []int{0, 0, 0, 0}, []int{1, 2, 50, 0}},
		"bought, then used":   {[]int{0, 0, 0, 0}, []int{2, 0, 1, 0}, []int{0, 0, 4, 0}},
		"made, then used":     {[]int{2, 3, 0, 0}, []int{0, 0, 1, 1}, []int{0, 0, 3, 2}},
		"more than the stock": {[]int{50, 0, 50, 0}, []int{0, maxRuns, 25, 0}, []int{0, maxRuns, 150, 0}},
	} {
		if now, ok := impl.MakeRun(pantry(), x.stock, impl.Plan{Runs: x.runs}); !ok || !slices.Equal(now, x.now) {
			t.Error(name, now, ok)
		}
	}
	if now, ok := impl.MakeRun(nil, nil, impl.Plan{}); !ok || len(now) != 0 {
		t.Error("no items", now, ok)
	}
	refused := func(list []impl.Item, stock, runs []int) bool {
		now, ok := impl.MakeRun(list, stock, impl.Plan{Runs: runs})
		return !ok && now == nil
	}
	for name, runs := range map[string][]int{"first part": {0, 3, 1, 1}, "first part of two": {2, 2, 1, 1}, "second part": {0, 3, 0, 1}, "for one of two": {3, 0, 2, 0}} {
		if !refused(pantry(), make([]int, 4), runs) {
			t.Error(name)
		}
	}
	for name, bad := range badAmounts(4, impl.MaxWant) {
		if !refused(pantry(), bad, make([]int, 4)) {
			t.Error(name)
		}
	}
	for name, bad := range badAmounts(4, maxRuns) {
		if !refused(pantry(), make([]int, 4), bad) {
			t.Error(name)
		}
	}
	for name, list := range badLists() {
		if !refused(list, make([]int, len(list)), make([]int, len(list))) {
			t.Error(name)
		}
	}
}

func TestRecipesKeepTheirArguments(t *testing.T) {
	forSeeds(t, 200, func(t *testing.T, r *rand.Rand) {
		list := randomItems(r, impl.MaxItems)
		want, stock, prices := amounts(r, len(list), 20), amounts(r, len(list), 20), amounts(r, len(list), 20)
		wasList, wasWant, wasStock, wasPrices := copyItems(list), slices.Clone(want), slices.Clone(stock), slices.Clone(prices)
		p, _ := impl.PlanLeast(list, want, stock)
		wasPlan := impl.Plan{Runs: slices.Clone(p.Runs), Left: slices.Clone(p.Left)}
		free := impl.FreeOf(list, 0)
		now, _ := impl.MakeRun(list, stock, p)
		impl.PlanOk(list, want, stock, p)
		impl.PlanCost(list, prices, p)
		for i := range list {
			impl.UnitCost(list, prices, i)
			impl.MarksOf(list, i)
			impl.ItemText(list[i])
		}
		spoil(free)
		spoil(now)
		if !samePlan(p, wasPlan) {
			t.Error("plan", p, wasPlan)
		}
		spoil(p.Runs)
		if !slices.Equal(p.Left, wasPlan.Left) {
			t.Error("runs and left share memory")
		}
		spoil(p.Left)
		if !slices.EqualFunc(list, wasList, sameItem) || !slices.Equal(want, wasWant) || !slices.Equal(stock, wasStock) || !slices.Equal(prices, wasPrices) {
			t.Error("arguments")
		}
	})
}
