package tests

import (
	"math"
	"math/big"
	"math/rand/v2"
	"slices"

	"loop.example/restaurantkitchen/impl"
)

const maxRuns = 9999999

// pantry returns the items of the document's example.
func pantry() []impl.Item {
	return []impl.Item{
		{Marks: 1},
		{Marks: 4},
		{Yield: 4, Parts: []impl.Part{{Of: 0, Many: 2}}},
		{Yield: 2, Parts: []impl.Part{{Of: 1, Many: 3}, {Of: 2, Many: 1}}, Marks: 8},
	}
}

// tallest returns MaxItems items, with the greatest numbers, of which each is made from as many as may be that are made themselves.
func tallest() []impl.Item {
	list := []impl.Item{{Marks: impl.MaxMark}}
	for i := 1; i < impl.MaxItems; i++ {
		x := impl.Item{Yield: 1}
		for of := max(0, i-impl.MaxParts); of < i; of++ {
			x.Parts = append(x.Parts, impl.Part{Of: of, Many: impl.MaxMany})
		}
		list = append(list, x)
	}
	return list
}

// randomItems returns at most so many valid items.
func randomItems(r *rand.Rand, most int) []impl.Item {
	list := make([]impl.Item, between(r, 0, most))
	for i := range list {
		list[i] = randomItem(r, i)
	}
	return list
}

// randomItem returns an item that can stand at an index of valid items.
func randomItem(r *rand.Rand, index int) impl.Item {
	x := impl.Item{Marks: between(r, 0, impl.MaxMark) & between(r, 0, impl.MaxMark)}
	if index == 0 || r.IntN(4) == 0 {
		return x
	}
	x.Yield = between(r, 1, impl.MaxMany)
	chosen := r.Perm(index)[:between(r, 1, min(index, impl.MaxParts))]
	slices.Sort(chosen)
	for _, of := range chosen {
		x.Parts = append(x.Parts, impl.Part{Of: of, Many: between(r, 1, impl.MaxMany)})
	}
	return x
}

// badItems returns items that can stand at no index of valid items, each with one fault, by what is wrong.
func badItems() map[string]impl.Item {
	one := []impl.Part{{Of: 0, Many: 1}}
	parts := map[string][]impl.Part{
		"made from nothing":        nil,
		"too many parts":           {{Of: 0, Many: 1}, {Of: 1, Many: 1}, {Of: 2, Many: 1}, {Of: 3, Many: 1}},
		"part below 0":             {{Of: -1, Many: 1}},
		"part with greatest index": {{Of: math.MaxInt, Many: 1}},
		"second part not there":    {{Of: 0, Many: 1}, {Of: impl.MaxItems, Many: 1}},
		"parts descend":            {{Of: 1, Many: 1}, {Of: 0, Many: 1}},
		"part twice":               {{Of: 1, Many: 1}, {Of: 1, Many: 2}},
		"nothing of a part":        {{Of: 0, Many: 0}},
		"less than nothing":        {{Of: 0, Many: -1}},
		"too much of a part":       {{Of: 0, Many: impl.MaxMany + 1}},
		"too much of the second":   {{Of: 0, Many: 1}, {Of: 1, Many: impl.MaxMany + 1}},
	}
	bad := map[string]impl.Item{
		"marks below 0":       {Marks: -1},
		"marks too great":     {Marks: impl.MaxMark + 1},
		"made, marks below 0": {Yield: 1, Parts: one, Marks: -1},
		"made, great marks":   {Yield: 1, Parts: one, Marks: impl.MaxMark + 1},
		"bought with a part":  {Parts: one},
		"yield below 0":       {Yield: -1, Parts: one},
		"yield below nothing": {Yield: -1},
		"yield too great":     {Yield: impl.MaxMany + 1, Parts: one},
	}
	for name, list := range parts {
		bad[name] = impl.Item{Yield: 1, Parts: list}
	}
	return bad
}

// badLists returns lists that are not valid, each with one fault, by what is wrong.
func badLists() map[string][]impl.Item {
	bad := map[string][]impl.Item{
		"one too many":          append(tallest(), impl.Item{}),
		"the first one is made": {{Yield: 1, Parts: []impl.Part{{Of: 0, Many: 1}}}},
	}
	items := badItems()
	items["made from itself"] = impl.Item{Yield: 1, Parts: []impl.Part{{Of: 4, Many: 1}}}
	items["made from the one behind it"] = impl.Item{Yield: 1, Parts: []impl.Part{{Of: 5, Many: 1}}}
	for name, x := range items {
		bad[name] = append(pantry(), x)
		bad[name+", with one behind it"] = append(pantry(), x, impl.Item{})
	}
	return bad
}

// badAmounts returns lists of numbers of which none has so many numbers in 0..most.
func badAmounts(many, most int) map[string][]int {
	zeros := make([]int, many)
	bad := map[string][]int{"one too many": make([]int, many+1)}
	if many > 0 {
		bad["none"] = nil
		bad["one too few"] = make([]int, many-1)
		bad["first below 0"] = with(zeros, 0, -1)
		bad["last below 0"] = with(zeros, many-1, -1)
		bad["first too great"] = with(zeros, 0, most+1)
		bad["last too great"] = with(zeros, many-1, most+1)
	}
	return bad
}

// leftBy tells, by the document's sum for each item alone, what is left after runs.
func leftBy(list []impl.Item, want, stock, runs []int) []int {
	left := make([]int, len(list))
	for i, x := range list {
		left[i] = stock[i] - want[i] + runs[i]*max(x.Yield, 1)
		for j, y := range list {
			for _, p := range y.Parts {
				if p.Of == i {
					left[i] -= runs[j] * p.Many
				}
			}
		}
	}
	return left
}

// usesAlso tells whether an item is made from another one, however far behind it, or is it.
func usesAlso(list []impl.Item, index, other int) bool {
	if index == other {
		return true
	}
	for _, p := range list[index].Parts {
		if usesAlso(list, p.Of, other) {
			return true
		}
	}
	return false
}

func exactCost(list []impl.Item, prices []int, index int) *big.Rat {
	x := list[index]
	if x.Yield == 0 {
		return big.NewRat(int64(prices[index]), 1)
	}
	sum := new(big.Rat)
	for _, p := range x.Parts {
		part := exactCost(list, prices, p.Of)
		sum.Add(sum, part.Mul(part, big.NewRat(int64(p.Many), 1)))
	}
	return sum.Quo(sum, big.NewRat(int64(x.Yield), 1))
}

func copyItems(list []impl.Item) []impl.Item {
	list = slices.Clone(list)
	for i := range list {
		list[i].Parts = slices.Clone(list[i].Parts)
	}
	return list
}

func samePlan(p, q impl.Plan) bool {
	return slices.Equal(p.Runs, q.Runs) && slices.Equal(p.Left, q.Left)
}

func sameItem(x, y impl.Item) bool {
	return x.Yield == y.Yield && x.Marks == y.Marks && slices.Equal(x.Parts, y.Parts)
}
