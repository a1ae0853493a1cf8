package tests

import (
	"cmp"
	"math"
	"math/rand/v2"
	"slices"

	"loop.example/restaurantkitchen/impl"
)

// badSums are numbers that are no sums of a bill.
var badSums = []int{-1, impl.MaxSum + 1, math.MinInt, math.MaxInt}

// party returns what is owed in two groups, one of three people and one of two.
func party() []int {
	return []int{5, -2, -3, 4, -4}
}

// crossed returns what is owed in three pairs, whose first three people are even, too.
func crossed() []int {
	return []int{3, -1, -2, 1, 2, -3}
}

// randomShares returns valid shares, of which some are equal or nothing.
func randomShares(r *rand.Rand) []int {
	shares := amounts(r, between(r, 1, impl.MaxPeople), []int{1, 3, impl.MaxShare}[r.IntN(3)])
	if sumOf(shares) == 0 {
		shares[r.IntN(len(shares))] = between(r, 1, impl.MaxShare)
	}
	return shares
}

// randomSum returns a valid sum, often a small one.
func randomSum(r *rand.Rand) int {
	return between(r, 0, []int{10, 200, impl.MaxSum}[r.IntN(3)])
}

// randomPaid returns for so many people what each one has paid, together at most MaxSum.
func randomPaid(r *rand.Rand, people int) []int {
	return amounts(r, people, []int{3, 50, impl.MaxSum / people}[r.IntN(3)])
}

// randomPay returns a payment among so many people, at least two, of at most so much.
func randomPay(r *rand.Rand, people, most int) impl.Pay {
	from, to := r.IntN(people), r.IntN(people-1)
	return impl.Pay{From: from, To: to + oneIf(to >= from), Sum: between(r, 1, most)}
}

// randomPays returns at most so many payments among so many people, at least two.
func randomPays(r *rand.Rand, people, many int) []impl.Pay {
	list := make([]impl.Pay, between(r, 0, many))
	most := []int{1, 3, 9, impl.MaxSum / max(1, len(list))}[r.IntN(4)]
	for i := range list {
		list[i] = randomPay(r, people, most)
	}
	return list
}

// randomOwed returns what is owed among at most so many people, each of whom has paid for the one before in some order, or begins another group.
func randomOwed(r *rand.Rand, people int) []int {
	order := r.Perm(between(r, 0, people))
	most := []int{2, 9, impl.MaxSum / 2}[r.IntN(3)]
	var list []impl.Pay
	for k := 1; k < len(order); k++ {
		if r.IntN(4) > 0 {
			list = append(list, impl.Pay{From: order[k-1], To: order[k], Sum: between(r, -most, most)})
		}
	}
	return gets(len(order), list)
}

// gets returns what each of so many people gets by payments, less what is paid.
func gets(people int, list []impl.Pay) []int {
	sums := make([]int, people)
	for i := range sums {
		for _, p := range list {
			sums[i] += p.Sum * (oneIf(p.To == i) - oneIf(p.From == i))
		}
	}
	return sums
}

// openOf tells how many people are owed something, or owe something.
func openOf(owed []int) int {
	return len(peopleOf(owed))
}

// peopleOf returns the indices of those who are owed something, or owe something.
func peopleOf(owed []int) []int {
	var people []int
	for i, n := range owed {
		if n != 0 {
			people = append(people, i)
		}
	}
	return people
}

// negated returns all numbers with the other sign.
func negated(list []int) []int {
	list = slices.Clone(list)
	for i := range list {
		list[i] = -list[i]
	}
	return list
}

// partsOf tells for each person how many there are who get a cent that is left before this one.
func partsOf(shares []int, sum int) []int {
	parts := make([]int, len(shares))
	all := sumOf(shares)
	left := sum
	for _, share := range shares {
		left -= sum * share / all
	}
	for i, share := range shares {
		before := 0
		for k, other := range shares {
			mine, theirs := sum*share%all, sum*other%all
			before += oneIf(theirs > mine || theirs == mine && k < i)
		}
		parts[i] = sum*share/all + oneIf(before < left)
	}
	return parts
}

// fastPays tells the payments by putting all in the order of what they are owed, anew for each payment.
func fastPays(owed []int) []impl.Pay {
	owed = slices.Clone(owed)
	var list []impl.Pay
	for openOf(owed) > 0 {
		payers, payees := upTo(len(owed)), upTo(len(owed))
		slices.SortStableFunc(payers, func(a, b int) int { return cmp.Compare(owed[a], owed[b]) })
		slices.SortStableFunc(payees, func(a, b int) int { return cmp.Compare(owed[b], owed[a]) })
		p := impl.Pay{From: payers[0], To: payees[0], Sum: min(-owed[payers[0]], owed[payees[0]])}
		owed[p.From] += p.Sum
		owed[p.To] -= p.Sum
		list = append(list, p)
	}
	return list
}

// eachDivision calls a check with every division of some people into groups, which are told by their sets.
func eachDivision(people []int, check func(groups []int)) {
	var put func(groups, rest []int)
	put = func(groups, rest []int) {
		if len(rest) == 0 {
			check(groups)
			return
		}
		for k := range groups {
			put(with(groups, k, groups[k]|1<<rest[0]), rest[1:])
		}
		put(append(slices.Clone(groups), 1<<rest[0]), rest[1:])
	}
	put(nil, people)
}

// owedBy returns what is owed to the people of a set, and nothing for the others.
func owedBy(owed []int, set int) []int {
	owed = slices.Clone(owed)
	for i := range owed {
		owed[i] *= oneIf(inSet(set, i))
	}
	return owed
}

// bestGroups returns the groups of that division into most even groups which comes first, if the groups of each one are in ascending order.
func bestGroups(owed []int) []int {
	var best []int
	eachDivision(peopleOf(owed), func(groups []int) {
		for _, set := range groups {
			if sumOf(owedBy(owed, set)) != 0 {
				return
			}
		}
		slices.Sort(groups)
		if len(groups) > len(best) || len(groups) == len(best) && slices.Compare(groups, best) < 0 {
			best = slices.Clone(groups)
		}
	})
	return best
}

// bestPays returns the payments of all groups of bestGroups.
func bestPays(owed []int) []impl.Pay {
	var list []impl.Pay
	for _, set := range bestGroups(owed) {
		list = append(list, fastPays(owedBy(owed, set))...)
	}
	return list
}

// five is what is owed among five people.
type five [5]int

// leastPays tells for everything that can be owed after at most so many payments among five people, each of at most so much, how many there are at least.
func leastPays(many, most int) map[five]int {
	least := map[five]int{{}: 0}
	reached := []five{{}}
	for round := 1; round <= many; round++ {
		var next []five
		for _, owed := range reached {
			eachPay(len(owed), most, func(p impl.Pay) {
				then := owed
				then[p.From] -= p.Sum
				then[p.To] += p.Sum
				if _, ok := least[then]; !ok {
					least[then] = round
					next = append(next, then)
				}
			})
		}
		reached = next
	}
	return least
}

// eachPay calls a check with every payment among so many people of at most so much.
func eachPay(people, most int, check func(p impl.Pay)) {
	for from := range people {
		for to := range people {
			for sum := 1; sum <= most && from != to; sum++ {
				check(impl.Pay{From: from, To: to, Sum: sum})
			}
		}
	}
}

// badShares returns shares that are not valid, by what is wrong.
func badShares() map[string][]int {
	return map[string][]int{
		"nobody":                nil,
		"empty":                 {},
		"nothing for one":       {0},
		"nothing for all":       make([]int, impl.MaxPeople),
		"one too many":          slices.Repeat([]int{1}, impl.MaxPeople+1),
		"one too many, nothing": append(slices.Repeat([]int{1}, impl.MaxPeople), 0),
		"many too many":         slices.Repeat([]int{1}, 100),
		"less than nothing":     {-1},
		"first below nothing":   {-1, 2, 2},
		"last below nothing":    {2, 2, -1},
		"together nothing":      {1, -1},
		"too much":              {impl.MaxShare + 1},
		"first too much":        {impl.MaxShare + 1, 1, 1},
		"last too much":         {1, 1, impl.MaxShare + 1},
		"far too much":          {1, math.MaxInt},
		"far below nothing":     {1, math.MinInt},
		"round the numbers":     {math.MaxInt, math.MaxInt, 3},
	}
}

// badOwed returns numbers that are not owed, by what is wrong.
func badOwed() map[string][]int {
	return map[string][]int{
		"one is owed":             {1},
		"one owes":                {-1},
		"a cent too much":         {6, -2, -3, 4, -4},
		"a cent too little":       {5, -2, -3, 4, -5},
		"everybody is owed":       {1, 1, 1},
		"one too many":            make([]int, impl.MaxPeople+1),
		"one too many, owed":      {1, -1, 1, -1, 1, -1, 1, -1},
		"many too many":           make([]int, 100),
		"too much":                {impl.MaxSum + 1, -impl.MaxSum, -1},
		"too little":              {1, impl.MaxSum, -impl.MaxSum - 1},
		"too much and too little": {impl.MaxSum + 1, -impl.MaxSum - 1},
		"far too much":            {math.MaxInt, -math.MaxInt},
		"round the numbers":       {math.MinInt, math.MinInt},
		"round them by three":     {math.MaxInt, 1, math.MinInt},
	}
}

// badPays returns payments that cannot be among three people, by what is wrong.
func badPays() map[string]impl.Pay {
	return map[string]impl.Pay{
		"to oneself":        {From: 1, To: 1, Sum: 5},
		"of nothing":        {From: 0, To: 1, Sum: 0},
		"less than nothing": {From: 1, To: 0, Sum: -5},
		"too much":          {From: 0, To: 1, Sum: impl.MaxSum + 1},
		"far too much":      {From: 0, To: 1, Sum: math.MaxInt},
		"far below nothing": {From: 0, To: 1, Sum: math.MinInt},
		"from below 0":      {From: -1, To: 1, Sum: 5},
		"to below 0":        {From: 1, To: -1, Sum: 5},
		"from nobody":       {From: 3, To: 1, Sum: 5},
		"to nobody":         {From: 1, To: 3, Sum: 5},
		"from far below 0":  {From: math.MinInt, To: 1, Sum: 5},
		"to far behind":     {From: 1, To: math.MaxInt, Sum: 5},
		"between nobodies":  {From: 3, To: 4, Sum: 5},
	}
}

// spoilPays writes over all memory of payments, their spare capacity too.
func spoilPays(list []impl.Pay) {
	list = list[:cap(list)]
	for i := range list {
		list[i] = impl.Pay{From: -77, To: -77, Sum: -77}
	}
}
