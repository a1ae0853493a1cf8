package tests

import (
	"fmt"
	"math"
	"math/rand/v2"
	"regexp"
	"slices"
	"strconv"
	"strings"

	"loop.example/restaurantkitchen/impl"
)

// deedLine is the form of the texts of all deeds, and question that of the questions that have a number.
var (
	deedLine = regexp.MustCompile(strings.ReplaceAll(`^((buy|make) N N|(open|close) N|order N N N|work)$`, "N", "(0|[1-9][0-9]{0,2})"))
	question = regexp.MustCompile(`^(bill|free) (0|[1-9][0-9]{0,4})$`)
)

// bistro returns the house of the document's example.
func bistro() impl.House {
	return impl.House{Items: pantry(), Prices: []int{2, 3, 5, 9}, Stock: []int{0, 0, 0, 0}, Cash: 50}
}

// diner returns the house of the document's example with something in stock and two tables, of which the first one was served something.
func diner() impl.House {
	h := bistro()
	h.Stock = []int{4, 7, 8, 2}
	h.Tables = []impl.Table{tableOf(4, "0s 1o", 2, 2), tableOf(2, "0c 0t", 3, 3)}
	return h
}

// tableOf returns a table that avoids a set, with the text of its ticket (ticketOf), and the item of each dish.
func tableOf(avoid int, ticket string, of ...int) impl.Table {
	return impl.Table{Avoid: avoid, Dishes: ticketOf(ticket), Of: of}
}

// deedOf returns a deed with some of its numbers.
func deedOf(kind int, numbers ...int) impl.HouseDeed {
	numbers = append(numbers, 0, 0, 0)
	return impl.HouseDeed{Kind: kind, One: numbers[0], Two: numbers[1], Three: numbers[2]}
}

// randomHouse returns a valid house.
func randomHouse(r *rand.Rand) impl.House {
	list := randomItems(r, impl.MaxItems)
	h := impl.House{Items: list, Prices: amounts(r, len(list), impl.MaxPrice), Stock: amounts(r, len(list), impl.MaxWant), Cash: between(r, 0, 500)}
	switch r.IntN(4) {
	case 0:
		h.Cash = between(r, 0, 20)
	case 1:
		h.Cash = between(r, impl.MaxCash-200, impl.MaxCash)
	}
	for range between(r, 0, impl.MaxTables) {
		h.Tables = append(h.Tables, randomTable(r, list))
	}
	return h
}

// randomTable returns a table that can stand in a house with such items.
func randomTable(r *rand.Rand, list []impl.Item) impl.Table {
	x := impl.Table{Avoid: between(r, 0, impl.MaxMark) & between(r, 0, impl.MaxMark)}
	may := canHave(list, x.Avoid)
	if len(may) == 0 {
		return x
	}
	x.Dishes = randomTicket(r, impl.MaxOrders)
	for range x.Dishes {
		x.Of = append(x.Of, may[r.IntN(len(may))])
	}
	return x
}

// randomDeed returns a deed of any kind, whose numbers are near those that are possible in a house.
func randomDeed(r *rand.Rand, h impl.House) impl.HouseDeed {
	item, table := between(r, -oneIf(r.IntN(9) == 0), len(h.Items)), between(r, -oneIf(r.IntN(9) == 0), len(h.Tables))
	many := between(r, 0, 8)
	if r.IntN(8) == 0 {
		many = between(r, -1, impl.MaxWant+1)
	}
	var d impl.HouseDeed
	switch kind := between(r, impl.HdBuy, impl.HdClose); kind {
	case impl.HdBuy, impl.HdMake:
		d = deedOf(kind, item, many)
	case impl.HdOpen:
		d = deedOf(kind, between(r, -1, impl.MaxMark+1)&between(r, -1, 63))
	case impl.HdOrder:
		d = deedOf(kind, table, item, between(r, -oneIf(r.IntN(9) == 0), impl.MaxCourse+oneIf(r.IntN(9) == 0)))
	case impl.HdWork:
		d = deedOf(kind)
	case impl.HdClose:
		d = deedOf(kind, table)
	}
	switch r.IntN(40) {
	case 0:
		d.Kind = between(r, -1, impl.HdClose+1)
	case 1:
		d.Three = between(r, -1, 1)
	case 2:
		d.Two = between(r, -1, 1)
	}
	return d
}

// randomDeeds returns so many deeds, whose numbers are near those that are possible in a house to which they lead.
func randomDeeds(r *rand.Rand, h impl.House, many int) []impl.HouseDeed {
	list := make([]impl.HouseDeed, many)
	for i := range list {
		list[i] = randomDeed(r, h)
		h, _ = deedDone(h, list[i])
	}
	return list
}

// randomLine returns a line of any kind.
func randomLine(r *rand.Rand, h impl.House) string {
	lines := []string{"stock", "cash", "tables", "left", "end", "what", "", " ", "Work", "work ", "open", "bill", "bill 00", "free  1", "buy 0", "stock 0",
		"bill " + strconv.Itoa(between(r, -1, impl.MaxTables)), "free " + strconv.Itoa(between(r, -1, impl.MaxMark+2)), "free 0"}
	if r.IntN(3) == 0 {
		return lines[r.IntN(len(lines))]
	}
	return textOf(randomDeed(r, h))
}

// randomLines returns so many lines, those with deeds near what is possible in a house to which they lead.
func randomLines(r *rand.Rand, h impl.House, many int) []string {
	lines := make([]string, many)
	for i := range lines {
		lines[i] = randomLine(r, h)
		h, _ = lineDone(h, lines[i])
	}
	return lines
}

// canHave tells, item by item, which ones are made and have nothing of a set of allergens, however far behind.
func canHave(list []impl.Item, avoid int) []int {
	var may []int
	for i, x := range list {
		has := 0
		for k, y := range list {
			if usesAlso(list, i, k) {
				has |= y.Marks
			}
		}
		if x.Yield > 0 && has&avoid == 0 {
			may = append(may, i)
		}
	}
	return may
}

// ticketsOf returns the tickets of all tables of a house.
func ticketsOf(h impl.House) [][]impl.Order {
	kitchen := make([][]impl.Order, len(h.Tables))
	for i, x := range h.Tables {
		kitchen[i] = x.Dishes
	}
	return kitchen
}

// pricesOf returns the prices of all items of a table whose dishes are in one of some states, together.
func pricesOf(h impl.House, x impl.Table, letters string) int {
	sum := 0
	for i, dish := range x.Dishes {
		if isState(dish, letters) {
			sum += h.Prices[x.Of[i]]
		}
	}
	return sum
}

// openPrices returns the prices of all dishes of all tables that were not taken back, together.
func openPrices(h impl.House) int {
	sum := 0
	for _, x := range h.Tables {
		sum += pricesOf(h, x, "ofcs")
	}
	return sum
}

// isPossible tells of a house that was changed by a deed whether it may be: what a deed can make wrong.
func isPossible(h impl.House) bool {
	if h.Cash < 0 || h.Cash > impl.MaxCash || len(h.Tables) > impl.MaxTables {
		return false
	}
	for _, n := range h.Stock {
		if n < 0 || n > impl.MaxWant {
			return false
		}
	}
	for _, x := range h.Tables {
		if x.Avoid < 0 || x.Avoid > impl.MaxMark || len(x.Dishes) > impl.MaxOrders || len(x.Of) != len(x.Dishes) {
			return false
		}
		for i, dish := range x.Dishes {
			if dish.Course < 0 || dish.Course > impl.MaxCourse || !slices.Contains(canHave(h.Items, x.Avoid), x.Of[i]) {
				return false
			}
		}
		if !inCourse(x.Dishes) {
			return false
		}
	}
	return true
}

// deedDone tells, kind by kind, what a deed makes of a valid house, and whether it can be done.
func deedDone(h impl.House, d impl.HouseDeed) (impl.House, bool) {
	then := copyHouse(h)
	isItem := func(k int) bool { return k >= 0 && k < len(h.Items) }
	isTable := func(k int) bool { return k >= 0 && k < len(h.Tables) }
	ok := false
	switch d.Kind {
	case impl.HdBuy:
		if ok = isItem(d.One) && d.Two >= 1 && d.Two <= 50 && d.Three == 0 && h.Items[d.One].Yield == 0; ok {
			then.Cash -= d.Two * h.Prices[d.One]
			then.Stock[d.One] += d.Two
		}
	case impl.HdMake:
		if ok = isItem(d.One) && d.Two >= 1 && d.Two <= 50 && d.Three == 0 && h.Items[d.One].Yield > 0; ok {
			then.Stock[d.One] += d.Two * h.Items[d.One].Yield
			for _, p := range h.Items[d.One].Parts {
				then.Stock[p.Of] -= d.Two * p.Many
			}
		}
	case impl.HdOpen:
		ok = d.Two == 0 && d.Three == 0
		then.Tables = append(then.Tables, impl.Table{Avoid: d.One})
	case impl.HdOrder:
		if ok = isTable(d.One) && isItem(d.Two); ok {
			then.Stock[d.Two]--
			x := &then.Tables[d.One]
			x.Dishes, x.Of = append(x.Dishes, impl.Order{Course: d.Three}), append(x.Of, d.Two)
		}
	case impl.HdWork:
		kitchen, some := workOn(ticketsOf(h))
		for i := range kitchen {
			then.Tables[i].Dishes = kitchen[i]
		}
		ok = some && d == deedOf(impl.HdWork)
	case impl.HdClose:
		if ok = isTable(d.One) && d.Two == 0 && d.Three == 0 && allDone(h.Tables[d.One].Dishes); ok {
			then.Cash += pricesOf(h, h.Tables[d.One], "s")
			then.Tables = append(then.Tables[:d.One], then.Tables[d.One+1:]...)
		}
	}
	if !ok || !isPossible(then) {
		return copyHouse(h), false
	}
	return then, true
}

// endOf returns the deeds that end a valid house: as much work as there is, and then each table, at the front.
func endOf(h impl.House) []impl.HouseDeed {
	list := slices.Repeat([]impl.HouseDeed{deedOf(impl.HdWork)}, workOf(ticketsOf(h)))
	return append(list, slices.Repeat([]impl.HouseDeed{deedOf(impl.HdClose)}, len(h.Tables))...)
}

// textOf tells the text of a deed, "" if it has none.
func textOf(d impl.HouseDeed) string {
	var text string
	switch d.Kind {
	case impl.HdBuy:
		text = fmt.Sprintf("buy %d %d", d.One, d.Two)
	case impl.HdMake:
		text = fmt.Sprintf("make %d %d", d.One, d.Two)
	case impl.HdOpen:
		text = fmt.Sprintf("open %d", d.One)
	case impl.HdOrder:
		text = fmt.Sprintf("order %d %d %d", d.One, d.Two, d.Three)
	case impl.HdWork:
		text = "work"
	case impl.HdClose:
		text = fmt.Sprintf("close %d", d.One)
	}
	if then, ok := deedIn(text); !ok || then != d {
		return ""
	}
	return text
}

// deedIn tells the deed whose text a text is, by the form of all such texts.
func deedIn(text string) (impl.HouseDeed, bool) {
	if !deedLine.MatchString(text) {
		return impl.HouseDeed{}, false
	}
	words := strings.Fields(text)
	var numbers []int
	for _, word := range words[1:] {
		n, _ := strconv.Atoi(word)
		numbers = append(numbers, n)
	}
	return deedOf(slices.Index([]string{"buy", "make", "open", "order", "work", "close"}, words[0]), numbers...), true
}

// lineDone tells what a line makes of a valid house, and the answer.
func lineDone(h impl.House, line string) (impl.House, string) {
	if d, ok := deedIn(line); ok {
		then, done := deedDone(h, d)
		return then, []string{"no", "ok"}[oneIf(done)]
	}
	if line == "end" {
		for _, d := range endOf(h) {
			h, _ = deedDone(h, d)
		}
		return h, "ok"
	}
	return copyHouse(h), answerTo(h, line)
}

// answerTo tells the answer to a question.
func answerTo(h impl.House, line string) string {
	answers := map[string]string{"stock": listed(h.Stock), "cash": fmt.Sprint(h.Cash), "tables": fmt.Sprint(len(h.Tables)), "left": fmt.Sprint(workOf(ticketsOf(h)))}
	if answer, ok := answers[line]; ok {
		return answer
	}
	if !question.MatchString(line) {
		return "what"
	}
	n, _ := strconv.Atoi(line[len("bill "):])
	switch {
	case line[0] == 'b' && n < len(h.Tables):
		return fmt.Sprint(pricesOf(h, h.Tables[n], "s"))
	case line[0] == 'f' && n <= impl.MaxMark:
		return listed(canHave(h.Items, n))
	}
	return "none"
}

// listed tells numbers with commas between them, or that there are none.
func listed(list []int) string {
	if len(list) == 0 {
		return "none"
	}
	return strings.ReplaceAll(strings.Trim(fmt.Sprint(list), "[]"), " ", ",")
}

// badHouses returns houses that are not valid, each with one fault, by what is wrong.
func badHouses() map[string]impl.House {
	bad := map[string]impl.House{}
	add := func(name string, change func(h *impl.House)) {
		h := diner()
		change(&h)
		bad[name] = h
	}
	for name, list := range badLists() {
		bad["items, "+name] = impl.House{Items: list, Prices: make([]int, len(list)), Stock: make([]int, len(list)), Cash: 50}
	}
	for name, list := range badAmounts(4, impl.MaxPrice) {
		add("prices, "+name, func(h *impl.House) { h.Prices = list })
	}
	for name, list := range badAmounts(4, impl.MaxWant) {
		add("stock, "+name, func(h *impl.House) { h.Stock = list })
	}
	for _, cash := range []int{-1, impl.MaxCash + 1, math.MinInt, math.MaxInt} {
		add(fmt.Sprint("cash ", cash), func(h *impl.House) { h.Cash = cash })
		bad[fmt.Sprint("only cash ", cash)] = impl.House{Cash: cash}
	}
	add("one table too many", func(h *impl.House) { h.Tables = make([]impl.Table, impl.MaxTables+1) })
	add("many tables too many", func(h *impl.House) { h.Tables = make([]impl.Table, 100) })
	add("the last table is not valid, full", func(h *impl.House) { h.Tables = append(make([]impl.Table, 3), tableOf(32, "")) })
	bad["no items, but a dish"] = impl.House{Tables: []impl.Table{tableOf(0, "0o", 0)}}
	bad["no items, but a price"] = impl.House{Prices: []int{1}}
	bad["no items, but a stock"] = impl.House{Stock: []int{1}}
	for name, x := range badTables() {
		add(name+", the first table", func(h *impl.House) { h.Tables[0] = x })
		add(name+", the last table", func(h *impl.House) { h.Tables = append(h.Tables, x) })
	}
	return bad
}

// badTables returns tables that can stand in no house with the items of the document's example, each with one fault, by what is wrong.
func badTables() map[string]impl.Table {
	bad := map[string]impl.Table{
		"avoids less than nothing":         tableOf(-1, ""),
		"avoids too much":                  tableOf(impl.MaxMark+1, ""),
		"avoids far too little":            tableOf(math.MinInt, ""),
		"avoids far too much":              tableOf(math.MaxInt, ""),
		"avoids too much, with a dish":     tableOf(impl.MaxMark+1, "0o", 2),
		"one item too few":                 tableOf(0, "0o 0o", 2),
		"one item too many":                tableOf(0, "0o", 2, 3),
		"no items for the dishes":          tableOf(0, "0o"),
		"items for no dishes":              tableOf(0, "", 2),
		"an item that is bought":           tableOf(0, "0o", 0),
		"a second one that is bought":      tableOf(0, "0o 0o", 2, 1),
		"an item below 0":                  tableOf(0, "0o", -1),
		"no such item":                     tableOf(0, "0o", 4),
		"no such item, far past":           tableOf(0, "0o", math.MaxInt),
		"no such item, far below 0":        tableOf(0, "0s", math.MinInt),
		"avoids what the item has":         tableOf(8, "0o", 3),
		"avoids what a part has":           tableOf(4, "0o", 3),
		"avoids what a part of one has":    tableOf(1, "0o", 3),
		"avoids some of what it has":       tableOf(24, "0o 0o", 2, 3),
		"avoids all":                       tableOf(impl.MaxMark, "0o", 2),
		"avoids what it was served":        tableOf(12, "0s", 3),
		"avoids what was taken back":       tableOf(1, "0t", 2),
		"the last one has what is avoided": tableOf(4, "0o 0o 0o 0o 0o 0o", 2, 2, 2, 2, 2, 3),
	}
	for name, ticket := range badTickets() {
		bad[name] = impl.Table{Dishes: ticket, Of: slices.Repeat([]int{2}, len(ticket))}
	}
	return bad
}

func copyHouse(h impl.House) impl.House {
	h.Items, h.Prices, h.Stock, h.Tables = copyItems(h.Items), slices.Clone(h.Prices), slices.Clone(h.Stock), slices.Clone(h.Tables)
	for i, x := range h.Tables {
		h.Tables[i].Dishes, h.Tables[i].Of = slices.Clone(x.Dishes), slices.Clone(x.Of)
	}
	return h
}

// withTable returns a copy of a house with another table behind all others.
func withTable(h impl.House, x impl.Table) impl.House {
	h = copyHouse(h)
	h.Tables = append(h.Tables, x)
	return h
}

// withCash returns a copy of a house with other money.
func withCash(h impl.House, cash int) impl.House {
	h = copyHouse(h)
	h.Cash = cash
	return h
}

func sameTable(x, y impl.Table) bool {
	return x.Avoid == y.Avoid && slices.Equal(x.Dishes, y.Dishes) && slices.Equal(x.Of, y.Of)
}

func sameHouse(h, other impl.House) bool {
	return slices.EqualFunc(h.Items, other.Items, sameItem) && slices.Equal(h.Prices, other.Prices) && slices.Equal(h.Stock, other.Stock) &&
		h.Cash == other.Cash && slices.EqualFunc(h.Tables, other.Tables, sameTable)
}

// isNothing tells whether a house is the zero value.
func isNothing(h impl.House) bool {
	return sameHouse(h, impl.House{})
}

// spoilHouse writes over all memory of a house, its spare capacity too.
func spoilHouse(h impl.House) {
	for _, x := range h.Items {
		for i := range x.Parts[:cap(x.Parts)] {
			x.Parts[:cap(x.Parts)][i] = impl.Part{Of: -77, Many: -77}
		}
	}
	for i := range h.Items[:cap(h.Items)] {
		h.Items[:cap(h.Items)][i] = impl.Item{Yield: -77, Marks: -77}
	}
	spoil(h.Prices)
	spoil(h.Stock)
	for _, x := range h.Tables {
		spoilTicket(x.Dishes)
		spoil(x.Of)
	}
	for i := range h.Tables[:cap(h.Tables)] {
		h.Tables[:cap(h.Tables)][i] = impl.Table{Avoid: -77}
	}
}
