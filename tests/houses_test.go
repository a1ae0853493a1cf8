package tests

import (
	"math"
	"math/rand/v2"
	"slices"
	"strings"
	"testing"

	"loop.example/restaurantkitchen/impl"
)

// houses are valid houses, with the bill of each table.
func houses() map[string]struct {
	house impl.House
	bills []int
} {
	full, rich := bistro(), bistro()
	full.Prices = slices.Repeat([]int{impl.MaxPrice}, 4)
	full.Stock = slices.Repeat([]int{impl.MaxWant}, 4)
	for range impl.MaxTables {
		full.Tables = append(full.Tables, tableOf(0, "0s 0s 1s 1s 2s 2s", 2, 3, 2, 3, 2, 3))
	}
	rich.Cash = impl.MaxCash
	rich.Tables = []impl.Table{tableOf(impl.MaxMark, ""), tableOf(0, "0s 0t 1s 1c 1f 1o", 2, 3, 3, 3, 3, 3), tableOf(22, "2t", 2), tableOf(2, "0t 0o 2o", 3, 3, 2)}
	free := bistro()
	free.Prices = make([]int, 4)
	free.Cash = 0
	free.Tables = []impl.Table{tableOf(0, "0s 0s", 2, 3)}
	return map[string]struct {
		house impl.House
		bills []int
	}{
		"nothing":          {impl.House{}, nil},
		"only tables":      {impl.House{Tables: make([]impl.Table, impl.MaxTables)}, []int{0, 0, 0, 0}},
		"only money":       {impl.House{Cash: impl.MaxCash}, nil},
		"example":          {bistro(), nil},
		"with tables":      {diner(), []int{5, 0}},
		"full":             {full, []int{120, 120, 120, 120}},
		"all states":       {rich, []int{0, 14, 0, 0}},
		"all for free":     {free, []int{0}},
		"the tallest ones": {impl.House{Items: tallest(), Prices: upTo(6), Stock: upTo(6), Tables: []impl.Table{tableOf(0, "0s 1s", 5, 1)}}, []int{6}},
	}
}

func TestHouseValid(t *testing.T) {
	for name, x := range houses() {
		if !impl.HouseValid(x.house) {
			t.Error(name)
		}
	}
	for name, h := range badHouses() {
		if impl.HouseValid(h) {
			t.Error(name)
		}
	}
	// What no part of item 2 has may be avoided, and just that.
	for avoid := range impl.MaxMark + 1 {
		for item, marks := range []int{1, 4, 1, 13} {
			if valid := impl.HouseValid(withTable(bistro(), tableOf(avoid, "0o", item))); valid != (item >= 2 && avoid&marks == 0) {
				t.Error("avoided", avoid, item, valid)
			}
		}
	}
}

func TestTableBill(t *testing.T) {
	for name, x := range houses() {
		for table, bill := range x.bills {
			if got := impl.TableBill(x.house, table); got != bill {
				t.Error(name, table, got)
			}
		}
		for _, table := range []int{-1, -2, len(x.bills), len(x.bills) + 1, math.MinInt, math.MaxInt} {
			if got := impl.TableBill(x.house, table); got != -1 {
				t.Error("no such table", name, table, got)
			}
		}
	}
	for name, h := range badHouses() {
		for _, table := range []int{-1, 0, 1, 2} {
			if got := impl.TableBill(h, table); got != -1 {
				t.Error(name, table, got)
			}
		}
	}
}

func TestHouseWorth(t *testing.T) {
	for name, x := range houses() {
		if worth := impl.HouseWorth(x.house); worth != x.house.Cash+sumOf(x.bills) {
			t.Error(name, worth)
		}
	}
	if impl.HouseWorth(withCash(diner(), impl.MaxCash)) != impl.MaxCash+5 {
		t.Error("worth more than there may be of money")
	}
	for name, h := range badHouses() {
		if worth := impl.HouseWorth(h); worth != -1 {
			t.Error(name, worth)
		}
	}
}

// changed returns a copy of the house with tables (diner), changed.
func changed(change func(h *impl.House)) impl.House {
	h := diner()
	change(&h)
	return h
}

func TestHouseDo(t *testing.T) {
	for name, x := range map[string]struct {
		deed impl.HouseDeed
		then func(h *impl.House)
	}{
		"buy":                       {deedOf(impl.HdBuy, 0, 4), func(h *impl.House) { h.Stock[0], h.Cash = 8, 42 }},
		"buy one":                   {deedOf(impl.HdBuy, 1, 1), func(h *impl.House) { h.Stock[1], h.Cash = 8, 47 }},
		"buy for all the money":     {deedOf(impl.HdBuy, 0, 25), func(h *impl.House) { h.Stock[0], h.Cash = 29, 0 }},
		"make":                      {deedOf(impl.HdMake, 2, 1), func(h *impl.House) { h.Stock[0], h.Stock[2] = 2, 12 }},
		"make out of all":           {deedOf(impl.HdMake, 2, 2), func(h *impl.House) { h.Stock[0], h.Stock[2] = 0, 16 }},
		"make from two parts":       {deedOf(impl.HdMake, 3, 2), func(h *impl.House) { h.Stock = []int{4, 1, 6, 6} }},
		"open":                      {deedOf(impl.HdOpen, 5), func(h *impl.House) { h.Tables = append(h.Tables, tableOf(5, "")) }},
		"open for all":              {deedOf(impl.HdOpen, 0), func(h *impl.House) { h.Tables = append(h.Tables, tableOf(0, "")) }},
		"open for none":             {deedOf(impl.HdOpen, 31), func(h *impl.House) { h.Tables = append(h.Tables, tableOf(31, "")) }},
		"order":                     {deedOf(impl.HdOrder, 0, 2, 2), func(h *impl.House) { h.Stock[2], h.Tables[0] = 7, tableOf(4, "0s 1o 2o", 2, 2, 2) }},
		"order of the first course": {deedOf(impl.HdOrder, 1, 3, 0), func(h *impl.House) { h.Stock[3], h.Tables[1] = 1, tableOf(2, "0c 0t 0o", 3, 3, 3) }},
		"order behind it":           {deedOf(impl.HdOrder, 1, 2, 1), func(h *impl.House) { h.Stock[2], h.Tables[1] = 7, tableOf(2, "0c 0t 1o", 3, 3, 2) }},
		"work":                      {deedOf(impl.HdWork), func(h *impl.House) { h.Tables[1].Dishes[0].State = impl.StServed }},
	} {
		if then, ok := impl.HouseDo(diner(), x.deed); !ok || !sameHouse(then, changed(x.then)) {
			t.Error(name, then, ok)
		}
	}
	for name, d := range map[string]impl.HouseDeed{
		"buy nothing":                 deedOf(impl.HdBuy, 0, 0),
		"buy less than nothing":       deedOf(impl.HdBuy, 0, -1),
		"buy for too much":            deedOf(impl.HdBuy, 0, 26),
		"buy too many":                deedOf(impl.HdBuy, 0, 47),
		"buy more than there may be":  deedOf(impl.HdBuy, 0, 51),
		"buy far too many":            deedOf(impl.HdBuy, 0, math.MaxInt),
		"buy far less than nothing":   deedOf(impl.HdBuy, 0, math.MinInt),
		"buy what is made":            deedOf(impl.HdBuy, 2, 1),
		"buy an item below 0":         deedOf(impl.HdBuy, -1, 1),
		"buy no such item":            deedOf(impl.HdBuy, 4, 1),
		"buy no such item, far past":  deedOf(impl.HdBuy, math.MaxInt, 1),
		"buy with a third number":     deedOf(impl.HdBuy, 0, 1, 1),
		"make no batches":             deedOf(impl.HdMake, 2, 0),
		"make less than nothing":      deedOf(impl.HdMake, 2, -1),
		"make without parts":          deedOf(impl.HdMake, 2, 3),
		"make without one part":       deedOf(impl.HdMake, 3, 3),
		"make far too many":           deedOf(impl.HdMake, 2, math.MaxInt),
		"make far less than nothing":  deedOf(impl.HdMake, 2, math.MinInt),
		"make what is bought":         deedOf(impl.HdMake, 0, 1),
		"make an item below 0":        deedOf(impl.HdMake, -1, 1),
		"make no such item":           deedOf(impl.HdMake, 4, 1),
		"make no such item, far past": deedOf(impl.HdMake, math.MaxInt, 1),
		"make with a third number":    deedOf(impl.HdMake, 2, 1, -1),
		"open with less than nothing": deedOf(impl.HdOpen, -1),
		"open with too much":          deedOf(impl.HdOpen, 32),
		"open with far too much":      deedOf(impl.HdOpen, math.MaxInt),
		"open with a second number":   deedOf(impl.HdOpen, 0, 1),
		"open with a third number":    deedOf(impl.HdOpen, 0, 0, 1),
		"order what is avoided":       deedOf(impl.HdOrder, 0, 3, 1),
		"order what is bought":        deedOf(impl.HdOrder, 0, 0, 1),
		"order an item below 0":       deedOf(impl.HdOrder, 0, -1, 1),
		"order no such item":          deedOf(impl.HdOrder, 0, 4, 1),
		"order nothing, far past":     deedOf(impl.HdOrder, 0, math.MaxInt, 1),
		"order at a table below 0":    deedOf(impl.HdOrder, -1, 2, 1),
		"order at no such table":      deedOf(impl.HdOrder, 2, 2, 1),
		"order at none, far below 0":  deedOf(impl.HdOrder, math.MinInt, 2, 1),
		"order of a course below 0":   deedOf(impl.HdOrder, 0, 2, -1),
		"order of no such course":     deedOf(impl.HdOrder, 0, 2, 3),
		"work with a number":          deedOf(impl.HdWork, 1),
		"work with a second number":   deedOf(impl.HdWork, 0, 1),
		"work with a third number":    deedOf(impl.HdWork, 0, 0, -1),
		"close with one ordered":      deedOf(impl.HdClose, 0),
		"close with one cooked":       deedOf(impl.HdClose, 1),
		"close a table below 0":       deedOf(impl.HdClose, -1),
		"close no such table":         deedOf(impl.HdClose, 2),
		"close none, far past":        deedOf(impl.HdClose, math.MaxInt),
		"no kind below 0":             deedOf(-1),
		"no such kind":                deedOf(6),
		"no such kind, far past":      deedOf(math.MaxInt),
		"no such kind, far below 0":   deedOf(math.MinInt),
		"no such kind, with numbers":  deedOf(6, 0, 2, 1),
	} {
		if then, ok := impl.HouseDo(diner(), d); ok || !sameHouse(then, diner()) {
			t.Error(name, then, ok)
		}
	}
	for name, h := range badHouses() {
		for kind := -1; kind <= 6; kind++ {
			if then, ok := impl.HouseDo(h, deedOf(kind, 0)); ok || !isNothing(then) {
				t.Error(name, kind, then, ok)
			}
		}
		if then, ok := impl.HouseDo(h, deedOf(impl.HdBuy, 0, 1)); ok || !isNothing(then) {
			t.Error(name, then, ok)
		}
	}
}

// doable are deeds in houses that are at a bound: each can be done in the first house and not in the second one.
func doable() map[string]struct {
	deed        impl.HouseDeed
	can, cannot impl.House
} {
	stocked := func(index, n int) impl.House { return changed(func(h *impl.House) { h.Stock[index] = n }) }
	seated := func(x ...impl.Table) impl.House { return changed(func(h *impl.House) { h.Tables = x }) }
	type row = struct {
		deed        impl.HouseDeed
		can, cannot impl.House
	}
	return map[string]row{
		"money for it":             {deedOf(impl.HdBuy, 1, 5), withCash(diner(), 15), withCash(diner(), 14)},
		"any money":                {deedOf(impl.HdBuy, 0, 1), withCash(diner(), 2), withCash(diner(), 0)},
		"room for what is bought":  {deedOf(impl.HdBuy, 0, 10), stocked(0, 40), stocked(0, 41)},
		"room for what is made":    {deedOf(impl.HdMake, 2, 2), stocked(2, 42), stocked(2, 43)},
		"enough of the first part": {deedOf(impl.HdMake, 3, 2), stocked(1, 6), stocked(1, 5)},
		"enough of the next part":  {deedOf(impl.HdMake, 3, 2), stocked(2, 2), stocked(2, 1)},
		"one in stock":             {deedOf(impl.HdOrder, 0, 2, 1), stocked(2, 1), stocked(2, 0)},
		"a table more":             {deedOf(impl.HdOpen, 3), seated(make([]impl.Table, 3)...), seated(make([]impl.Table, 4)...)},
		"a dish more":              {deedOf(impl.HdOrder, 0, 2, 0), seated(tableOf(0, "0o 0o 0o 0o 0o", 2, 2, 2, 2, 2)), seated(tableOf(0, "0o 0o 0o 0o 0o 0o", 2, 2, 2, 2, 2, 2))},
		"a dish more, all taken":   {deedOf(impl.HdOrder, 0, 2, 0), seated(tableOf(0, "0t 0t 0t 0t 0t", 2, 2, 2, 2, 2)), seated(tableOf(0, "0t 0t 0t 0t 0t 0t", 2, 2, 2, 2, 2, 2))},
		"an earlier course":        {deedOf(impl.HdOrder, 0, 2, 0), seated(tableOf(0, "1o", 2)), seated(tableOf(0, "1f", 2))},
		"an earlier course, done":  {deedOf(impl.HdOrder, 0, 2, 0), seated(tableOf(0, "1t", 2)), seated(tableOf(0, "1s", 2))},
		"the same course, fired":   {deedOf(impl.HdOrder, 0, 2, 1), seated(tableOf(0, "1f", 2)), seated(tableOf(0, "2f", 2))},
		"what is not avoided":      {deedOf(impl.HdOrder, 0, 2, 0), seated(tableOf(30, "")), seated(tableOf(1, ""))},
		"what no part has":         {deedOf(impl.HdOrder, 0, 3, 0), seated(tableOf(18, "")), seated(tableOf(22, ""))},
		"something to do":          {deedOf(impl.HdWork), seated(tableOf(0, ""), tableOf(0, "0s 1o", 2, 2)), seated(tableOf(0, ""), tableOf(0, "0s 1t", 2, 2))},
		"work at a table":          {deedOf(impl.HdWork), seated(tableOf(0, "0o", 2)), seated()},
		"nothing is ordered":       {deedOf(impl.HdClose, 0), seated(tableOf(0, "0s 1s", 2, 2)), seated(tableOf(0, "0s 1o", 2, 2))},
		"nothing is fired":         {deedOf(impl.HdClose, 1), seated(tableOf(0, "0o", 2), tableOf(0, "0t", 2)), seated(tableOf(0, "0s", 2), tableOf(0, "0f", 2))},
		"nothing is cooked":        {deedOf(impl.HdClose, 0), seated(tableOf(0, "0t 0t", 2, 2)), seated(tableOf(0, "0t 0c", 2, 2))},
		"no dishes":                {deedOf(impl.HdClose, 0), seated(tableOf(31, "")), seated()},
	}
}

func TestHouseDoAtBounds(t *testing.T) {
	for name, x := range doable() {
		want, _ := deedDone(x.can, x.deed)
		if then, ok := impl.HouseDo(x.can, x.deed); !ok || !sameHouse(then, want) {
			t.Error(name, then, ok)
		}
		if then, ok := impl.HouseDo(x.cannot, x.deed); ok || !sameHouse(then, x.cannot) {
			t.Error("not", name, then, ok)
		}
	}
}

func TestHouseDoClosesTables(t *testing.T) {
	h := diner()
	h.Tables = []impl.Table{tableOf(0, "0s 1t 2s", 2, 3, 3), tableOf(1, ""), tableOf(2, "0o", 3), tableOf(0, "0s", 3)}
	for table, bill := range []int{14, 0, -1, 9} {
		then, ok := impl.HouseDo(h, deedOf(impl.HdClose, table))
		want := copyHouse(h)
		if bill >= 0 {
			want.Cash += bill
			want.Tables = slices.Delete(want.Tables, table, table+1)
		}
		if ok != (bill >= 0) || !sameHouse(then, want) {
			t.Error(table, then, ok)
		}
	}
	for _, x := range []struct {
		cash, table int
		ok          bool
	}{{impl.MaxCash - 14, 0, true}, {impl.MaxCash - 13, 0, false}, {impl.MaxCash, 0, false}, {impl.MaxCash, 1, true}, {impl.MaxCash - 9, 3, true}, {impl.MaxCash - 8, 3, false}} {
		rich := withCash(h, x.cash)
		if then, ok := impl.HouseDo(rich, deedOf(impl.HdClose, x.table)); ok != x.ok || !ok && !sameHouse(then, rich) {
			t.Error("room for the bill", x, then, ok)
		}
	}
}

func TestHouseRun(t *testing.T) {
	list := []impl.HouseDeed{deedOf(impl.HdBuy, 0, 4), deedOf(impl.HdBuy, 4, 1), deedOf(impl.HdMake, 2, 2), deedOf(impl.HdMake, 2, 1), deedOf(impl.HdOpen, 4), deedOf(impl.HdOrder, 0, 3, 0), deedOf(impl.HdOrder, 0, 2, 1), deedOf(impl.HdClose, 0), deedOf(impl.HdWork), deedOf(7)}
	want := bistro()
	want.Stock, want.Cash, want.Tables = []int{0, 0, 7, 0}, 42, []impl.Table{tableOf(4, "1f", 2)}
	if then, many := impl.HouseRun(bistro(), list); many != 5 || !sameHouse(then, want) {
		t.Error(then, many)
	}
	for name, x := range houses() {
		for _, none := range [][]impl.HouseDeed{nil, {}, {deedOf(-1), deedOf(6)}, make([]impl.HouseDeed, 100)} {
			if then, many := impl.HouseRun(x.house, none); many != 0 || !sameHouse(then, x.house) {
				t.Error(name, then, many)
			}
		}
	}
	for name, h := range badHouses() {
		for _, deeds := range [][]impl.HouseDeed{nil, list} {
			if then, many := impl.HouseRun(h, deeds); many != 0 || !isNothing(then) {
				t.Error(name, then, many)
			}
		}
	}
}

func TestEndDeeds(t *testing.T) {
	for name, x := range map[string]struct {
		house       impl.House
		work, close int
	}{
		"nothing":     {impl.House{}, 0, 0},
		"no tables":   {bistro(), 0, 0},
		"no dishes":   {impl.House{Tables: make([]impl.Table, 4)}, 0, 4},
		"with tables": {diner(), 4, 2},
		"all states":  {houses()["all states"].house, 12, 4},
		"all served":  {houses()["full"].house, 0, 4},
		"full":        {withTable(bistro(), tableOf(0, "0o 0o 1o 1o 2o 2o", 2, 2, 2, 2, 2, 2)), 18, 1},
	} {
		want := append(slices.Repeat([]impl.HouseDeed{{Kind: impl.HdWork}}, x.work), slices.Repeat([]impl.HouseDeed{{Kind: impl.HdClose}}, x.close)...)
		if list := impl.EndDeeds(x.house); !slices.Equal(list, want) {
			t.Error(name, list)
		}
	}
	for name, h := range badHouses() {
		if list := impl.EndDeeds(h); list != nil {
			t.Error(name, list)
		}
	}
}

// deedTexts are deeds and their texts.
var deedTexts = map[string]impl.HouseDeed{
	"buy 0 0":           deedOf(impl.HdBuy),
	"buy 0 4":           deedOf(impl.HdBuy, 0, 4),
	"buy 999 999":       deedOf(impl.HdBuy, 999, 999),
	"make 2 10":         deedOf(impl.HdMake, 2, 10),
	"make 999 0":        deedOf(impl.HdMake, 999, 0),
	"open 0":            deedOf(impl.HdOpen),
	"open 4":            deedOf(impl.HdOpen, 4),
	"open 999":          deedOf(impl.HdOpen, 999),
	"order 0 0 0":       deedOf(impl.HdOrder),
	"order 0 2 1":       deedOf(impl.HdOrder, 0, 2, 1),
	"order 999 999 999": deedOf(impl.HdOrder, 999, 999, 999),
	"order 100 20 3":    deedOf(impl.HdOrder, 100, 20, 3),
	"work":              deedOf(impl.HdWork),
	"close 0":           deedOf(impl.HdClose),
	"close 999":         deedOf(impl.HdClose, 999),
}

// badDeeds returns deeds that have no text.
func badDeeds() []impl.HouseDeed {
	bad := []impl.HouseDeed{deedOf(-1), deedOf(6), deedOf(math.MinInt), deedOf(math.MaxInt), deedOf(6, 1, 1, 1), deedOf(-1, 0, 4)}
	for kind, named := range []int{2, 2, 1, 3, 0, 1} {
		for i := range 3 {
			for _, n := range []int{-1, 1000, math.MinInt, math.MaxInt, 1, 999} {
				numbers := []int{0, 0, 0}
				numbers[i] = n
				if i >= named || n < 0 || n > 999 {
					bad = append(bad, deedOf(kind, numbers...))
				}
			}
		}
	}
	return bad
}

// badLines are texts of no deed.
func badLines() []string {
	bad := []string{"", " ", "  ", "\n", "\x00", "0", "0 0", "bu", "buys 0 1", "Buy 0 1", "BUY 0 1", "buy", "buy 0", "buy 0 1 0", "buy 0 1 2", "make 0", "make", "make 0 1 0", "open", "open 0 0", "open 1 2", "order", "order 0", "order 0 0", "order 0 0 0 0", "order 0 2 1 3 5", "work 0", "work work", "workwork", "close", "close 0 0", "close0", "take 0", "end", "stock", "cash", "tables", "left", "bill 0", "free 0", "what",
		"buy 00 1", "buy 0 01", "buy 0 -1", "buy -0 1", "buy 0 +1", "buy 0 1000", "buy 1000 1", "buy 0 99999999999999999999", "buy 18446744073709551616 1", "open 0x1", "open 1_0", "open 1e1", "open 1.0", "open \u0661", "open a", "open ", "open  1", "open\t1", "open\n1", "open 1\n", "work\n", "work\r", "\nwork", " work", "buy,0,1", "buy 0,1", "open 007", "close -1", "close 1000", "order 0 0 1000", "order 0 0 00", "order 0 -0 0", "wörk", "work\x00", "\xffwork", "work\nwork"}
	for text := range deedTexts {
		bad = append(bad, text+" ", " "+text, text+"\n", text+" 0", text+" 1", strings.ToUpper(text), strings.Replace(text, " ", "  ", 1)+"x", text+"x")
	}
	return bad
}

func TestDeedText(t *testing.T) {
	for text, d := range deedTexts {
		if got := impl.DeedText(d); got != text {
			t.Error(text, got)
		}
	}
	for _, d := range badDeeds() {
		if got := impl.DeedText(d); got != "" {
			t.Error(d, got)
		}
	}
}

func TestReadDeed(t *testing.T) {
	for text, d := range deedTexts {
		if got, ok := impl.ReadDeed(text); !ok || got != d {
			t.Error(text, got, ok)
		}
	}
	for _, text := range badLines() {
		if got, ok := impl.ReadDeed(text); ok || got != (impl.HouseDeed{}) {
			t.Errorf("%q %v %v", text, got, ok)
		}
	}
}

func TestJournalText(t *testing.T) {
	for text, list := range map[string][]impl.HouseDeed{
		"":                        nil,
		"work\n":                  {deedOf(impl.HdWork)},
		"buy 0 4\nwork\n":         {deedOf(impl.HdBuy, 0, 4), deedOf(impl.HdWork)},
		"work\nwork\nwork\n":      {deedOf(impl.HdWork), deedOf(impl.HdWork), deedOf(impl.HdWork)},
		"order 1 2 0\nclose 3\n":  {deedOf(impl.HdOrder, 1, 2), deedOf(impl.HdClose, 3)},
		"open 999\nmake 999 51\n": {deedOf(impl.HdOpen, 999), deedOf(impl.HdMake, 999, 51)},
	} {
		if got := impl.JournalText(list); got != text {
			t.Error(text, got)
		}
		for _, d := range badDeeds() {
			for i := range len(list) + 1 {
				if got := impl.JournalText(slices.Insert(slices.Clone(list), i, d)); got != "" {
					t.Error("with one that has no text", d, got)
				}
			}
		}
	}
	if impl.JournalText([]impl.HouseDeed{}) != "" {
		t.Error("empty")
	}
	if text := impl.JournalText(make([]impl.HouseDeed, 1000)); text != strings.Repeat("buy 0 0\n", 1000) {
		t.Error("many", len(text))
	}
}

func TestReadJournal(t *testing.T) {
	work, buy := deedOf(impl.HdWork), deedOf(impl.HdBuy, 0, 4)
	for _, x := range []struct {
		text string
		list []impl.HouseDeed
		read int
	}{
		{"", nil, 0},
		{"\n", nil, 0},
		{"work", nil, 0},
		{"work\n", []impl.HouseDeed{work}, 5},
		{"work\n\n", []impl.HouseDeed{work}, 5},
		{"\nwork\n", nil, 0},
		{"work\nwork", []impl.HouseDeed{work}, 5},
		{"work\nwork\n", []impl.HouseDeed{work, work}, 10},
		{"work\n\nwork\n", []impl.HouseDeed{work}, 5},
		{"work\r\nwork\n", nil, 0},
		{"work\nbuy 0 4\n", []impl.HouseDeed{work, buy}, 13},
		{"buy 0 4\nwork\nmake 2", []impl.HouseDeed{buy, work}, 13},
		{"buy 0 4\nwork\nmake 2\nwork\n", []impl.HouseDeed{buy, work}, 13},
		{"buy 0 4\nend\nwork\n", []impl.HouseDeed{buy}, 8},
		{"buy 0 4\ncash\nwork\n", []impl.HouseDeed{buy}, 8},
		{"buy 0 4\n work\n", []impl.HouseDeed{buy}, 8},
		{"buy 0 4 \nwork\n", nil, 0},
		{"buy 00 4\nwork\n", nil, 0},
		{"open 1000\nwork\n", nil, 0},
		{"open 999\nwork\n", []impl.HouseDeed{deedOf(impl.HdOpen, 999), work}, 14},
		{"work\xff\n", nil, 0},
		{"work\n\xff\n", []impl.HouseDeed{work}, 5},
	} {
		if list, read := impl.ReadJournal(x.text); !slices.Equal(list, x.list) || read != x.read {
			t.Errorf("%q %v %d", x.text, list, read)
		}
	}
	for _, line := range badLines() {
		// A line that goes on behind a newline may begin with a deed.
		if first, _, more := strings.Cut(line, "\n"); more {
			if _, ok := deedIn(first); ok {
				continue
			}
		}
		if list, read := impl.ReadJournal("work\n" + line + "\nwork\n"); !slices.Equal(list, []impl.HouseDeed{work}) || read != 5 {
			t.Errorf("%q %v %d", line, list, read)
		}
	}
}

func TestHouseLine(t *testing.T) {
	closed := diner()
	closed.Cash, closed.Tables = 50+5+5+9, nil
	same := diner()
	for _, x := range []struct {
		line   string
		then   impl.House
		answer string
	}{
		{"buy 0 4", changed(func(h *impl.House) { h.Stock[0], h.Cash = 8, 42 }), "ok"},
		{"make 2 1", changed(func(h *impl.House) { h.Stock[0], h.Stock[2] = 2, 12 }), "ok"},
		{"open 31", withTable(diner(), tableOf(31, "")), "ok"},
		{"order 0 2 1", changed(func(h *impl.House) { h.Stock[2], h.Tables[0] = 7, tableOf(4, "0s 1o 1o", 2, 2, 2) }), "ok"},
		{"work", changed(func(h *impl.House) { h.Tables[1].Dishes[0].State = impl.StServed }), "ok"},
		{"end", closed, "ok"},
		{"buy 2 1", same, "no"}, {"buy 0 0", same, "no"}, {"buy 999 999", same, "no"}, {"make 0 1", same, "no"}, {"open 32", same, "no"},
		{"order 0 3 1", same, "no"}, {"order 2 2 0", same, "no"}, {"close 0", same, "no"}, {"close 1", same, "no"}, {"close 2", same, "no"}, {"close 999", same, "no"},
		{"stock", same, "4,7,8,2"}, {"cash", same, "50"}, {"tables", same, "2"}, {"left", same, "4"},
		{"bill 0", same, "5"}, {"bill 1", same, "0"}, {"bill 2", same, "none"}, {"bill 99999", same, "none"},
		{"free 0", same, "2,3"}, {"free 1", same, "none"}, {"free 4", same, "2"}, {"free 8", same, "2"}, {"free 18", same, "2,3"}, {"free 31", same, "none"}, {"free 32", same, "none"}, {"free 99999", same, "none"},
	} {
		if then, answer := impl.HouseLine(diner(), x.line); answer != x.answer || !sameHouse(then, x.then) {
			t.Error(x.line, then, answer)
		}
	}
	for line, answer := range map[string]string{"stock": "none", "cash": "0", "tables": "0", "left": "0", "bill 0": "none", "free 0": "none", "end": "ok", "work": "no", "close 0": "no", "buy 0 1": "no"} {
		if then, got := impl.HouseLine(impl.House{}, line); got != answer || !isNothing(then) {
			t.Error("nothing", line, then, got)
		}
	}
	for name, h := range badHouses() {
		for _, line := range []string{"", "stock", "cash", "end", "work", "buy 0 1", "open 0", "bill 0", "free 0", "what", "tables", "left"} {
			if then, answer := impl.HouseLine(h, line); answer != "" || !isNothing(then) {
				t.Error(name, line, then, answer)
			}
		}
	}
}

func TestHouseLineIsWhat(t *testing.T) {
	lines := []string{"bill", "bill ", "bill  0", "bill 00", "bill 01", "bill +1", "bill -1", "bill -0", "bill 100000", "bill 000000", "bill 0 ", "bill 0 0", "bill 0x0", "bill 1_0", "bill a", "bill0", "bill\t0", "bill 0\n", "Bill 0", "bills 0",
		"free", "free ", "free  0", "free 00", "free 032", "free +0", "free -1", "free 100000", "free 99999999999999999999", "free 4 ", "free 4 4", "free a", "free0", "free\n4", "Free 4",
		"stock ", " stock", "stock 0", "Stock", "stock\n", "cash ", "cash 0", "CASH", "tables ", "tables 0", "table", "left ", "left 0", "left\n", "end ", " end", "end 0", "End", "end\n", "ends", "none", "ok", "no", "?"}
	questions := []string{"end", "stock", "cash", "tables", "left", "bill 0", "free 0"}
	for _, line := range append(lines, badLines()...) {
		if slices.Contains(questions, line) {
			continue
		}
		if then, answer := impl.HouseLine(diner(), line); answer != "what" || !sameHouse(then, diner()) {
			t.Errorf("%q %v %s", line, then, answer)
		}
	}
}

func TestHouseLineEndsWhatHasRoom(t *testing.T) {
	h := diner()
	h.Tables = []impl.Table{tableOf(0, "0s 0o", 2, 2), tableOf(0, "0s", 3), tableOf(0, "")}
	// The table 0 is closed as often as there are tables: one for whose bill there is no room stays, and all behind it.
	for _, x := range []struct{ cash, tables, then int }{
		{impl.MaxCash - 19, 0, impl.MaxCash},
		{impl.MaxCash - 18, 2, impl.MaxCash - 8},
		{impl.MaxCash - 10, 2, impl.MaxCash},
		{impl.MaxCash - 9, 3, impl.MaxCash - 9},
		{impl.MaxCash, 3, impl.MaxCash},
	} {
		then, answer := impl.HouseLine(withCash(h, x.cash), "end")
		if answer != "ok" || len(then.Tables) != x.tables || then.Cash != x.then {
			t.Error(x, then, answer)
		}
		for _, y := range then.Tables {
			if !impl.TicketDone(y.Dishes) {
				t.Error("not served", x, then)
			}
		}
	}
}

func TestHouseLines(t *testing.T) {
	lines := []string{"buy 0 4", "make 2 2", "stock", "cash", "open 4", "free 4", "order 0 3 0", "order 0 2 1", "left", "close 0", "work", "work", "work", "work", "bill 0", "close 0", "cash"}
	answers := []string{"ok", "ok", "0,0,8,0", "42", "ok", "2", "no", "ok", "3", "no", "ok", "ok", "ok", "no", "5", "ok", "47"}
	want := bistro()
	want.Cash, want.Stock = 47, []int{0, 0, 7, 0}
	if then, got := impl.HouseLines(bistro(), lines); !slices.Equal(got, answers) || !sameHouse(then, want) {
		t.Error(then, got)
	}
	for name, x := range houses() {
		for _, none := range [][]string{nil, {}} {
			if then, got := impl.HouseLines(x.house, none); len(got) != 0 || !sameHouse(then, x.house) {
				t.Error(name, then, got)
			}
		}
		if then, got := impl.HouseLines(x.house, make([]string, impl.MaxLinesText)); !slices.Equal(got, slices.Repeat([]string{"what"}, impl.MaxLinesText)) || !sameHouse(then, x.house) {
			t.Error("as many as there may be", name, then, got)
		}
		for _, many := range []int{impl.MaxLinesText + 1, 1000} {
			if then, got := impl.HouseLines(x.house, slices.Repeat([]string{"cash"}, many)); got != nil || !isNothing(then) {
				t.Error("too many", name, many, then, got)
			}
		}
	}
	for name, h := range badHouses() {
		for _, some := range [][]string{nil, {"cash"}, lines} {
			if then, got := impl.HouseLines(h, some); got != nil || !isNothing(then) {
				t.Error(name, then, got)
			}
		}
	}
}

// resultsOf returns the houses to which all functions lead that return one.
func resultsOf(r *rand.Rand, h impl.House) []impl.House {
	d, lines := randomDeed(r, h), randomLines(r, h, between(r, 0, 5))
	do, _ := impl.HouseDo(h, d)
	refused, _ := impl.HouseDo(h, deedOf(-1))
	run, _ := impl.HouseRun(h, randomDeeds(r, h, between(r, 0, 5)))
	none, _ := impl.HouseRun(h, nil)
	end, _ := impl.HouseLine(h, "end")
	line, _ := impl.HouseLine(h, randomLine(r, h))
	question, _ := impl.HouseLine(h, "stock")
	all, _ := impl.HouseLines(h, lines)
	same, _ := impl.HouseLines(h, nil)
	return []impl.House{do, refused, run, none, end, line, question, all, same}
}

// roomy returns a copy of a house of which every slice has spare capacity.
func roomy(h impl.House) impl.House {
	h = copyHouse(h)
	h.Items, h.Prices, h.Stock, h.Tables = slices.Grow(h.Items, 3), slices.Grow(h.Prices, 3), slices.Grow(h.Stock, 3), slices.Grow(h.Tables, 3)
	for i, x := range h.Tables {
		h.Tables[i].Dishes, h.Tables[i].Of = slices.Grow(x.Dishes, 3), slices.Grow(x.Of, 3)
	}
	return h
}

func TestHousesKeepTheirArguments(t *testing.T) {
	forSeeds(t, 500, func(t *testing.T, r *rand.Rand) {
		h := roomy(randomHouse(r))
		was := copyHouse(h)
		impl.HouseValid(h)
		impl.TableBill(h, 0)
		impl.HouseWorth(h)
		ends := impl.EndDeeds(h)
		for i := range ends[:cap(ends)] {
			ends[:cap(ends)][i] = deedOf(-77)
		}
		results := resultsOf(r, h)
		for i, then := range results {
			others := make([]impl.House, len(results))
			for k := range results {
				others[k] = copyHouse(results[k])
			}
			spoilHouse(then)
			for k := i + 1; k < len(results); k++ {
				if !sameHouse(results[k], others[k]) {
					t.Error("results share memory", was, i, k)
				}
			}
			if !sameHouse(h, was) {
				t.Error("house", was, h, i)
			}
		}
		for _, x := range h.Tables {
			if spare := x.Dishes[len(x.Dishes):cap(x.Dishes)]; slices.ContainsFunc(spare, func(x impl.Order) bool { return x != impl.Order{} }) {
				t.Error("spare capacity", was, spare)
			}
		}
	})
}

func TestTablesDoNotShareMemory(t *testing.T) {
	forSeeds(t, 300, func(t *testing.T, r *rand.Rand) {
		h := randomHouse(r)
		for len(h.Tables) < impl.MaxTables {
			h.Tables = append(h.Tables, randomTable(r, h.Items))
		}
		then, _ := impl.HouseRun(h, randomDeeds(r, h, 5))
		was := copyHouse(then)
		for i, x := range then.Tables {
			spoilTicket(x.Dishes)
			spoil(x.Of)
			if !slices.EqualFunc(then.Tables[i+1:], was.Tables[i+1:], sameTable) || !slices.Equal(then.Stock, was.Stock) || !slices.Equal(then.Prices, was.Prices) {
				t.Error(was, i)
			}
		}
	})
}

func TestHousesWhoseTablesAreTheSameMemory(t *testing.T) {
	h := diner()
	x := tableOf(0, "0o 1o", 2, 2)
	h.Tables = []impl.Table{{Dishes: x.Dishes[:1], Of: x.Of[:1]}, x, x}
	h.Prices = h.Stock
	want := copyHouse(h)
	want.Tables[0].Dishes[0].State = impl.StFired
	if then, ok := impl.HouseDo(h, deedOf(impl.HdWork)); !ok || !sameHouse(then, want) {
		t.Error("work", then, ok)
	}
	want, _ = deedDone(h, deedOf(impl.HdOrder, 0, 3, 2))
	if then, ok := impl.HouseDo(h, deedOf(impl.HdOrder, 0, 3, 2)); !ok || !sameHouse(then, want) || then.Prices[3] != 2 || then.Stock[3] != 1 {
		t.Error("order", then, ok)
	}
	if !slices.Equal(x.Dishes, ticketOf("0o 1o")) || !slices.Equal(x.Of, []int{2, 2}) {
		t.Error("table", x)
	}
}
