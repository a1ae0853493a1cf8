package impl

import (
	"strconv"
	"strings"
)

// MaxItems is the maximum number of items, MaxParts that of parts of a recipe, MaxMany the greatest amount of a part, and of what a batch makes, MaxWant the greatest amount that is wanted or in stock, MaxMark the greatest set of allergens, and MaxPrice the greatest price of a unit.
const (
	MaxItems = 6
	MaxParts = 3
	MaxMany  = 6
	MaxWant  = 50
	MaxMark  = 31
	MaxPrice = 20
)

// maxRuns is the greatest number of runs of an item that a plan may have.
const maxRuns = 9999999

// Part is so many units of an item, which is told by its index.
type Part struct {
	Of   int
	Many int
}

// Item has a Yield of 0 if it is bought; otherwise a batch of it makes Yield units from its parts. Marks is the sum of 2^k for the allergens k that it has by itself.
type Item struct {
	Yield int
	Parts []Part
	Marks int
}

// Plan tells for each item how many units are bought, if it is bought, or how many batches are made, if it is made (Runs), and how many units are left in the end (Left).
type Plan struct {
	Runs []int
	Left []int
}

// Frac is a fraction.
type Frac struct {
	Num int
	Den int
}

// ItemsValid reports whether there are at most MaxItems items, each with Marks in 0..MaxMark, and either a Yield of 0 and no parts, or a Yield in 1..MaxMany and 1..MaxParts parts, which are of items with lesser indices, by ascending indices, each with Many in 1..MaxMany.
func ItemsValid(list []Item) bool {
	if len(list) > MaxItems {
		return false
	}
	for i, x := range list {
		if !itemFits(x, i) {
			return false
		}
	}
	return true
}

// ItemText returns the text of an item that can be the last one of MaxItems valid items (ItemsValid): its Yield, an equals sign, its parts with commas between them, each as its Of, an asterisk, and its Many, an exclamation mark, and its Marks; "" for other items.
func ItemText(x Item) string {
	if !itemFits(x, MaxItems-1) {
		return ""
	}
	parts := make([]string, len(x.Parts))
	for i, p := range x.Parts {
		parts[i] = strconv.Itoa(p.Of) + "*" + strconv.Itoa(p.Many)
	}
	return strconv.Itoa(x.Yield) + "=" + strings.Join(parts, ",") + "!" + strconv.Itoa(x.Marks)
}

// ReadItem returns the item whose ItemText a text is, and true; the zero value and false if there is none.
func ReadItem(s string) (Item, bool) {
	yield, rest, _ := strings.Cut(s, "=")
	parts, marks, _ := strings.Cut(rest, "!")
	x := Item{Yield: readNumber(yield), Parts: readParts(parts), Marks: readNumber(marks)}
	// The reading is lenient (it takes leading zeros and signs), so it is the item's own text that decides.
	if s == "" || ItemText(x) != s {
		return Item{}, false
	}
	return x, true
}

// UsesOf returns the set, the sum of 2^k for their indices k, of an item of valid items (ItemsValid), all its parts, all parts of these, and so on; -1 if there is no such item, and for other items.
func UsesOf(list []Item, index int) int {
	if !ItemsValid(list) || !inRange(index, 0, len(list)-1) {
		return -1
	}
	uses := 1 << index
	// Parts have lesser indices, so an item stands in the set, if it ever will, before the loop comes to it.
	for k := index; k >= 0; k-- {
		if !inSet(uses, k) {
			continue
		}
		for _, p := range list[k].Parts {
			uses |= 1 << p.Of
		}
	}
	return uses
}

// MarksOf returns the set of all allergens that an item of valid items has by itself or by one of the items of UsesOf; -1 if there is no such item, and for other items.
func MarksOf(list []Item, index int) int {
	uses := UsesOf(list, index)
	if uses < 0 {
		return -1
	}
	marks := 0
	for k, x := range list {
		if inSet(uses, k) {
			marks |= x.Marks
		}
	}
	return marks
}

// FreeOf returns the indices of those of valid items that are made and have none of a set of allergens in 0..MaxMark (MarksOf), in ascending order; nil for other arguments.
func FreeOf(list []Item, avoid int) []int {
	if !ItemsValid(list) || !inRange(avoid, 0, MaxMark) {
		return nil
	}
	var free []int
	for i, x := range list {
		if isMade(x) && MarksOf(list, i)&avoid == 0 {
			free = append(free, i)
		}
	}
	return free
}

// PlanOk reports whether a plan gives an amount in 0..MaxWant that is wanted of each of valid items, out of such a stock: it has for each item a number of Runs in 0..9999999, and in Left what is in stock, and bought or made (Runs units, or Yield for each of Runs batches), less what is wanted and what all Runs of the items that are made from it need, which is never less than 0; false for other arguments.
func PlanOk(list []Item, want []int, stock []int, p Plan) bool {
	if !amountsFit(list, want, stock) || !allInRange(p.Runs, len(list), maxRuns) || len(p.Left) != len(list) {
		return false
	}
	need := map[int]int{}
	for i := len(list) - 1; i >= 0; i-- {
		left := stock[i] + madeBy(list[i], p.Runs[i]) - want[i] - need[i]
		if left < 0 || left != p.Left[i] {
			return false
		}
		addNeed(need, list[i], p.Runs[i])
	}
	return true
}

// PlanLeast returns the plan of valid items for amounts that are wanted and in stock (PlanOk) in which the Runs of every item are as few as they can be, and true: item by item, the last one first, as many as are needed for what is wanted and for the Runs of the items behind it, less what is in stock; the zero value and false for other arguments.
func PlanLeast(list []Item, want []int, stock []int) (Plan, bool) {
	if !amountsFit(list, want, stock) {
		return Plan{}, false
	}
	p := Plan{Runs: make([]int, len(list)), Left: make([]int, len(list))}
	need := map[int]int{}
	// All runs that need an item are behind it, so its need is known when the loop comes to it.
	for i := len(list) - 1; i >= 0; i-- {
		lack := want[i] + need[i] - stock[i]
		p.Runs[i] = runsFor(list[i], lack)
		p.Left[i] = madeBy(list[i], p.Runs[i]) - lack
		addNeed(need, list[i], p.Runs[i])
	}
	return p, true
}

// PricesValid reports whether there is a price in 0..MaxPrice for each of valid items.
func PricesValid(list []Item, prices []int) bool {
	return ItemsValid(list) && allInRange(prices, len(list), MaxPrice)
}

// PlanCost returns the sum, over all of valid items that are bought, of the Runs of a plan times the price; all prices must be valid (PricesValid), but those of items that are made add nothing. It returns -1 if the plan does not have one number of Runs in 0..9999999 for each item, and for other arguments.
func PlanCost(list []Item, prices []int, p Plan) int {
	if !PricesValid(list, prices) || !allInRange(p.Runs, len(list), maxRuns) {
		return -1
	}
	cost := 0
	for i, x := range list {
		if !isMade(x) {
			cost += p.Runs[i] * prices[i]
		}
	}
	return cost
}

// UnitCost returns what a unit of an item of valid items costs with prices (PricesValid), when batches can be divided, in lowest terms, and true: its price, if it is bought; otherwise the sum of what its parts cost, each Many times, divided by its Yield. It returns the zero value and false if there is no such item, and for other arguments.
func UnitCost(list []Item, prices []int, index int) (Frac, bool) {
	if !PricesValid(list, prices) || !inRange(index, 0, len(list)-1) {
		return Frac{}, false
	}
	costs := make([]Frac, index+1)
	for i := range costs {
		costs[i] = Frac{Num: prices[i], Den: 1}
		if isMade(list[i]) {
			costs[i] = batchShare(list[i], costs)
		}
	}
	return costs[index], true
}

// MakeRun returns what is in stock of valid items after a plan was carried out, item by item, by ascending indices, out of a stock with an amount in 0..MaxWant of each one, and true: so many units are bought, or so many batches are made, for which the parts must be there; nil and false if they are not there for one of them, if the plan does not have one number of Runs in 0..9999999 for each item, and for other arguments.
func MakeRun(list []Item, stock []int, p Plan) ([]int, bool) {
	if !ItemsValid(list) || !allInRange(stock, len(list), MaxWant) || !allInRange(p.Runs, len(list), maxRuns) {
		return nil, false
	}
	now := append([]int(nil), stock...)
	for i, x := range list {
		for _, part := range x.Parts {
			now[part.Of] -= part.Many * p.Runs[i]
			if now[part.Of] < 0 {
				return nil, false
			}
		}
		now[i] += madeBy(x, p.Runs[i])
	}
	return now, true
}

func inRange(n, least, most int) bool {
	return least <= n && n <= most
}

// allInRange reports whether there are just so many numbers, all in 0..most.
func allInRange(list []int, many, most int) bool {
	if len(list) != many {
		return false
	}
	for _, n := range list {
		if !inRange(n, 0, most) {
			return false
		}
	}
	return true
}

func inSet(set, k int) bool {
	return set>>k&1 == 1
}

func isMade(x Item) bool {
	return x.Yield > 0
}

// itemFits reports whether an item can stand at an index of valid items.
func itemFits(x Item, index int) bool {
	if !inRange(x.Marks, 0, MaxMark) {
		return false
	}
	if x.Yield == 0 {
		return len(x.Parts) == 0
	}
	return inRange(x.Yield, 1, MaxMany) && partsFit(x.Parts, index)
}

func partsFit(parts []Part, index int) bool {
	if !inRange(len(parts), 1, MaxParts) {
		return false
	}
	least := 0
	for _, p := range parts {
		if !inRange(p.Of, least, index-1) || !inRange(p.Many, 1, MaxMany) {
			return false
		}
		least = p.Of + 1
	}
	return true
}

// readNumber returns -1, which no number of an item may be, for what is not a number.
func readNumber(s string) int {
	n, err := strconv.Atoi(s)
	if err != nil {
		return -1
	}
	return n
}

func readParts(s string) []Part {
	if s == "" {
		return nil
	}
	var parts []Part
	for _, text := range strings.Split(s, ",") {
		of, many, _ := strings.Cut(text, "*")
		parts = append(parts, Part{Of: readNumber(of), Many: readNumber(many)})
	}
	return parts
}

// amountsFit reports whether there are an amount that is wanted and one in stock of each of valid items.
func amountsFit(list []Item, want, stock []int) bool {
	return ItemsValid(list) && allInRange(want, len(list), MaxWant) && allInRange(stock, len(list), MaxWant)
}

func madeBy(x Item, runs int) int {
	if isMade(x) {
		return runs * x.Yield
	}
	return runs
}

// runsFor returns the fewest runs by which an item is there of which so many units lack.
func runsFor(x Item, lack int) int {
	if lack <= 0 {
		return 0
	}
	if isMade(x) {
		return (lack + x.Yield - 1) / x.Yield
	}
	return lack
}

func addNeed(need map[int]int, x Item, runs int) {
	for _, p := range x.Parts {
		need[p.Of] += p.Many * runs
	}
}

// batchShare returns what a unit of an item that is made costs, by what a unit of each item before it costs.
func batchShare(x Item, costs []Frac) Frac {
	sum := Frac{Num: 0, Den: 1}
	for _, p := range x.Parts {
		c := costs[p.Of]
		sum = lowest(sum.Num*c.Den+p.Many*c.Num*sum.Den, sum.Den*c.Den)
	}
	return lowest(sum.Num, sum.Den*x.Yield)
}

func lowest(num, den int) Frac {
	a, b := num, den
	for b != 0 {
		a, b = b, a%b
	}
	return Frac{Num: num / a, Den: den / a}
}
