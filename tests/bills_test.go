package tests

import (
	"math"
	"math/rand/v2"
	"slices"
	"testing"

	"loop.example/restaurantkitchen/impl"
)

func TestSharesValid(t *testing.T) {
	for _, shares := range [][]int{{1}, {impl.MaxShare}, {0, 1}, {1, 0}, {0, 0, 0, 0, 0, 0, 1}, {1, 2, 3}, slices.Repeat([]int{impl.MaxShare}, impl.MaxPeople)} {
		if !impl.SharesValid(shares) {
			t.Error(shares)
		}
	}
	for name, shares := range badShares() {
		if impl.SharesValid(shares) {
			t.Error(name)
		}
	}
}

func TestShareOf(t *testing.T) {
	for _, x := range []struct {
		shares []int
		sum    int
		parts  []int
	}{
		{[]int{1, 1, 1}, 100, []int{34, 33, 33}},
		{[]int{1, 1, 1}, 101, []int{34, 34, 33}},
		{[]int{1, 1, 1}, 102, []int{34, 34, 34}},
		{[]int{1, 1, 1}, 2, []int{1, 1, 0}},
		{[]int{1, 1, 1}, 0, []int{0, 0, 0}},
		{[]int{2, 0, 5}, 10, []int{3, 0, 7}},
		{[]int{1, 2}, 1, []int{0, 1}},
		{[]int{1, 2}, 2, []int{1, 1}},
		{[]int{2, 1, 1}, 1, []int{1, 0, 0}},
		{[]int{1, 1, 2, 2}, 3, []int{1, 0, 1, 1}},
		{[]int{0, 0, 1, 0}, 9999, []int{0, 0, 9999, 0}},
		{[]int{0, 1, 0, 1, 0, 1}, 5, []int{0, 2, 0, 2, 0, 1}},
		{[]int{7}, 0, []int{0}},
		{[]int{20}, 9999, []int{9999}},
		{[]int{20, 20, 20, 20, 20, 20, 20}, 9999, []int{1429, 1429, 1429, 1428, 1428, 1428, 1428}},
		{[]int{1, 1, 1, 1, 1, 1, 1}, 6, []int{1, 1, 1, 1, 1, 1, 0}},
		{[]int{1, 20, 20, 20, 20, 20, 20}, 1, []int{0, 1, 0, 0, 0, 0, 0}},
		{[]int{6, 12, 18}, 100, []int{17, 33, 50}},
	} {
		if parts := impl.ShareOf(x.shares, x.sum); !slices.Equal(parts, x.parts) {
			t.Error(x.shares, x.sum, parts)
		}
		for _, sum := range badSums {
			if parts := impl.ShareOf(x.shares, sum); parts != nil {
				t.Error(x.shares, sum, parts)
			}
		}
	}
	for name, shares := range badShares() {
		for _, sum := range []int{0, 1, 100, impl.MaxSum} {
			if parts := impl.ShareOf(shares, sum); parts != nil {
				t.Error(name, sum, parts)
			}
		}
	}
}

func TestTipOf(t *testing.T) {
	for _, x := range []struct{ sum, percent, tip int }{
		{0, 0, 0}, {0, 1, 0}, {0, 100, 0}, {1, 0, 0}, {1, 1, 1}, {1, 99, 1}, {1, 100, 1}, {2, 50, 1}, {2, 51, 2},
		{99, 1, 1}, {100, 1, 1}, {101, 1, 2}, {1234, 10, 124}, {1200, 10, 120}, {1201, 10, 121}, {9999, 0, 0}, {9999, 1, 100}, {9999, 99, 9900}, {9999, 100, 9999},
	} {
		if tip := impl.TipOf(x.sum, x.percent); tip != x.tip {
			t.Error(x, tip)
		}
	}
	for _, sum := range badSums {
		for _, percent := range []int{0, 1, 100, 101, -1} {
			if tip := impl.TipOf(sum, percent); tip != -1 {
				t.Error(sum, percent, tip)
			}
		}
	}
	for _, percent := range []int{-1, 101, math.MinInt, math.MaxInt} {
		for _, sum := range []int{0, 5, 9999} {
			if tip := impl.TipOf(sum, percent); tip != -1 {
				t.Error(sum, percent, tip)
			}
		}
	}
}

func TestOwedValid(t *testing.T) {
	for _, owed := range [][]int{nil, {}, {0}, {0, 0}, {1, -1}, {-3, 1, 2}, party(), crossed(), make([]int, impl.MaxPeople), {impl.MaxSum, -impl.MaxSum}, {-impl.MaxSum, 0, impl.MaxSum}, {impl.MaxSum, impl.MaxSum, -impl.MaxSum, -impl.MaxSum, 1, -1, 0}} {
		if !impl.OwedValid(owed) {
			t.Error(owed)
		}
	}
	for name, owed := range badOwed() {
		if impl.OwedValid(owed) {
			t.Error(name)
		}
	}
}

func TestOwedOf(t *testing.T) {
	for _, x := range []struct{ shares, paid, owed []int }{
		{[]int{1, 1, 1}, []int{100, 0, 0}, []int{66, -33, -33}},
		{[]int{1, 1, 1}, []int{0, 0, 100}, []int{-34, -33, 67}},
		{[]int{1, 1, 1}, []int{0, 0, 0}, []int{0, 0, 0}},
		{[]int{2, 0, 5}, []int{0, 10, 0}, []int{-3, 10, -7}},
		{[]int{2, 0, 5}, []int{3, 0, 7}, []int{0, 0, 0}},
		{[]int{1}, []int{9999}, []int{0}},
		{[]int{0, 1}, []int{9999, 0}, []int{9999, -9999}},
		{[]int{1, 1}, []int{5000, 4999}, []int{0, 0}},
		{[]int{1, 2, 3}, []int{10, 20, 30}, []int{0, 0, 0}},
		{[]int{20, 20, 20, 20, 20, 20, 20}, []int{9999, 0, 0, 0, 0, 0, 0}, []int{8570, -1429, -1429, -1428, -1428, -1428, -1428}},
	} {
		if owed := impl.OwedOf(x.shares, x.paid); !slices.Equal(owed, x.owed) {
			t.Error(x.shares, x.paid, owed)
		}
		for _, paid := range [][]int{nil, x.paid[1:], append(slices.Clone(x.paid), 0)} {
			if owed := impl.OwedOf(x.shares, paid); owed != nil {
				t.Error("another number", x.shares, paid, owed)
			}
		}
		for i := range x.paid {
			for _, sum := range badSums {
				if owed := impl.OwedOf(x.shares, with(x.paid, i, sum)); owed != nil {
					t.Error("no such sum", x.shares, x.paid, i, sum, owed)
				}
			}
		}
	}
	for _, paid := range [][]int{{5000, 5000}, {9999, 1}, {1, 9999}, {9999, 9999}} {
		if owed := impl.OwedOf([]int{1, 1}, paid); owed != nil {
			t.Error("too much together", paid, owed)
		}
	}
	for name, shares := range badShares() {
		for _, each := range []int{0, 1, 10} {
			if owed := impl.OwedOf(shares, slices.Repeat([]int{each}, len(shares))); owed != nil {
				t.Error(name, each, owed)
			}
		}
	}
}

func TestPaysOk(t *testing.T) {
	best := []impl.Pay{{From: 2, To: 0, Sum: 3}, {From: 1, To: 0, Sum: 2}, {From: 4, To: 3, Sum: 4}}
	for name, x := range map[string]struct {
		owed []int
		list []impl.Pay
	}{
		"nobody":                 {nil, nil},
		"nothing to settle":      {make([]int, impl.MaxPeople), nil},
		"best":                   {party(), best},
		"fast":                   {party(), []impl.Pay{{From: 4, To: 0, Sum: 4}, {From: 2, To: 3, Sum: 3}, {From: 1, To: 0, Sum: 1}, {From: 1, To: 3, Sum: 1}}},
		"in two parts":           {[]int{2, -2}, []impl.Pay{{From: 1, To: 0, Sum: 1}, {From: 1, To: 0, Sum: 1}}},
		"with money back":        {[]int{2, -2}, []impl.Pay{{From: 1, To: 0, Sum: 5}, {From: 0, To: 1, Sum: 3}}},
		"back first":             {[]int{2, -2}, []impl.Pay{{From: 0, To: 1, Sum: 3}, {From: 1, To: 0, Sum: 5}}},
		"by another one":         {[]int{2, 0, -2}, []impl.Pay{{From: 2, To: 1, Sum: 2}, {From: 1, To: 0, Sum: 2}}},
		"round a table":          {[]int{0, 0, 0}, []impl.Pay{{From: 0, To: 1, Sum: 7}, {From: 1, To: 2, Sum: 7}, {From: 2, To: 0, Sum: 7}}},
		"the greatest sum":       {[]int{impl.MaxSum, -impl.MaxSum}, []impl.Pay{{From: 1, To: 0, Sum: impl.MaxSum}}},
		"more than the greatest": {[]int{0, 0}, []impl.Pay{{From: 1, To: 0, Sum: impl.MaxSum}, {From: 1, To: 0, Sum: impl.MaxSum}, {From: 0, To: 1, Sum: impl.MaxSum}, {From: 0, To: 1, Sum: impl.MaxSum}}},
		"many":                   {[]int{100, -100}, slices.Repeat([]impl.Pay{{From: 1, To: 0, Sum: 1}}, 100)},
	} {
		if !impl.PaysOk(x.owed, x.list) {
			t.Error(name)
		}
	}
	for name, x := range map[string]struct {
		owed []int
		list []impl.Pay
	}{
		"none":               {party(), nil},
		"without the first":  {party(), best[1:]},
		"without the last":   {party(), best[:2]},
		"one of them twice":  {party(), append(best[:3:3], best[0])},
		"in both directions": {[]int{2, -2}, []impl.Pay{{From: 0, To: 1, Sum: 2}}},
		"to another one":     {[]int{2, 0, -2}, []impl.Pay{{From: 2, To: 1, Sum: 2}}},
		"a cent too much":    {[]int{2, -2}, []impl.Pay{{From: 1, To: 0, Sum: 3}}},
		"a cent too little":  {[]int{2, -2}, []impl.Pay{{From: 1, To: 0, Sum: 1}}},
		"nothing was owed":   {[]int{0, 0}, []impl.Pay{{From: 1, To: 0, Sum: 1}}},
		"nobody is there":    {nil, []impl.Pay{{From: 0, To: 1, Sum: 1}}},
		"only one is there":  {[]int{0}, []impl.Pay{{From: 0, To: 0, Sum: 1}}},
	} {
		if impl.PaysOk(x.owed, x.list) {
			t.Error(name)
		}
	}
	for name, owed := range badOwed() {
		for _, list := range [][]impl.Pay{nil, best, {{From: 1, To: 0, Sum: 1}}, {{From: 1, To: 0, Sum: impl.MaxSum}, {From: 1, To: 0, Sum: 1}}} {
			if impl.PaysOk(owed, list) {
				t.Error(name, list)
			}
		}
	}
}

func TestPaysOkRefusesBadPayments(t *testing.T) {
	for name, bad := range badPays() {
		// What would be owed if each of these could be paid.
		owed := []int{0, 0, 0}
		for i := range owed {
			owed[i] = bad.Sum * (oneIf(bad.To == i) - oneIf(bad.From == i))
		}
		back := impl.Pay{From: bad.To, To: bad.From, Sum: bad.Sum}
		for _, list := range [][]impl.Pay{{bad}, {bad, back}, {back, bad}} {
			if impl.PaysOk(owed, list) || impl.PaysOk(make([]int, 3), list) {
				t.Error(name, list)
			}
		}
		good := []impl.Pay{{From: 2, To: 0, Sum: 5}, {From: 2, To: 1, Sum: 1}}
		for place := range 3 {
			if impl.PaysOk([]int{5, 1, -6}, slices.Insert(slices.Clone(good), place, bad, back)) {
				t.Error("among good ones", name, place)
			}
		}
	}
}

// settled are numbers that are owed, with the payments that are fast, those that are best, and into how many groups the people can be divided.
var settled = map[string]struct {
	owed       []int
	fast, best []impl.Pay
	groups     int
}{
	"nobody":               {nil, nil, nil, 0},
	"one":                  {[]int{0}, nil, nil, 0},
	"nothing is owed":      {make([]int, impl.MaxPeople), nil, nil, 0},
	"a pair":               {[]int{-7, 7}, []impl.Pay{{From: 0, To: 1, Sum: 7}}, []impl.Pay{{From: 0, To: 1, Sum: 7}}, 1},
	"a pair among others":  {[]int{0, 3, 0, -3, 0}, []impl.Pay{{From: 3, To: 1, Sum: 3}}, []impl.Pay{{From: 3, To: 1, Sum: 3}}, 1},
	"the greatest sums":    {[]int{impl.MaxSum, -impl.MaxSum}, []impl.Pay{{From: 1, To: 0, Sum: impl.MaxSum}}, []impl.Pay{{From: 1, To: 0, Sum: impl.MaxSum}}, 1},
	"one owes all":         {[]int{-4, 1, 1, 2}, []impl.Pay{{From: 0, To: 3, Sum: 2}, {From: 0, To: 1, Sum: 1}, {From: 0, To: 2, Sum: 1}}, []impl.Pay{{From: 0, To: 3, Sum: 2}, {From: 0, To: 1, Sum: 1}, {From: 0, To: 2, Sum: 1}}, 1},
	"one is owed all":      {[]int{-1, -3, 6, -2}, []impl.Pay{{From: 1, To: 2, Sum: 3}, {From: 3, To: 2, Sum: 2}, {From: 0, To: 2, Sum: 1}}, []impl.Pay{{From: 1, To: 2, Sum: 3}, {From: 3, To: 2, Sum: 2}, {From: 0, To: 2, Sum: 1}}, 1},
	"the first ones first": {[]int{1, 1, -1, -1}, []impl.Pay{{From: 2, To: 0, Sum: 1}, {From: 3, To: 1, Sum: 1}}, []impl.Pay{{From: 2, To: 0, Sum: 1}, {From: 3, To: 1, Sum: 1}}, 2},
	"example":              {party(), []impl.Pay{{From: 4, To: 0, Sum: 4}, {From: 2, To: 3, Sum: 3}, {From: 1, To: 0, Sum: 1}, {From: 1, To: 3, Sum: 1}}, []impl.Pay{{From: 2, To: 0, Sum: 3}, {From: 1, To: 0, Sum: 2}, {From: 4, To: 3, Sum: 4}}, 2},
	// The first three people are even, but then the others are only one group.
	"three pairs":       {crossed(), []impl.Pay{{From: 5, To: 0, Sum: 3}, {From: 2, To: 4, Sum: 2}, {From: 1, To: 3, Sum: 1}}, []impl.Pay{{From: 1, To: 3, Sum: 1}, {From: 2, To: 4, Sum: 2}, {From: 5, To: 0, Sum: 3}}, 3},
	"pairs and one":     {append([]int{0}, crossed()...), []impl.Pay{{From: 6, To: 1, Sum: 3}, {From: 3, To: 5, Sum: 2}, {From: 2, To: 4, Sum: 1}}, []impl.Pay{{From: 2, To: 4, Sum: 1}, {From: 3, To: 5, Sum: 2}, {From: 6, To: 1, Sum: 3}}, 3},
	"pairs from within": {[]int{-1, 2, 3, -3, -2, 1}, []impl.Pay{{From: 3, To: 2, Sum: 3}, {From: 4, To: 1, Sum: 2}, {From: 0, To: 5, Sum: 1}}, []impl.Pay{{From: 3, To: 2, Sum: 3}, {From: 4, To: 1, Sum: 2}, {From: 0, To: 5, Sum: 1}}, 3},
	"two owe the same":  {[]int{-1, -1, 1, 2, -1}, []impl.Pay{{From: 0, To: 3, Sum: 1}, {From: 1, To: 2, Sum: 1}, {From: 4, To: 3, Sum: 1}}, []impl.Pay{{From: 0, To: 2, Sum: 1}, {From: 1, To: 3, Sum: 1}, {From: 4, To: 3, Sum: 1}}, 2},
	"all to one":        {[]int{-1, -1, -1, -1, -1, -1, 6}, []impl.Pay{{From: 0, To: 6, Sum: 1}, {From: 1, To: 6, Sum: 1}, {From: 2, To: 6, Sum: 1}, {From: 3, To: 6, Sum: 1}, {From: 4, To: 6, Sum: 1}, {From: 5, To: 6, Sum: 1}}, []impl.Pay{{From: 0, To: 6, Sum: 1}, {From: 1, To: 6, Sum: 1}, {From: 2, To: 6, Sum: 1}, {From: 3, To: 6, Sum: 1}, {From: 4, To: 6, Sum: 1}, {From: 5, To: 6, Sum: 1}}, 1},
}

func TestSettleFast(t *testing.T) {
	for name, x := range settled {
		if list := impl.SettleFast(x.owed); !slices.Equal(list, x.fast) {
			t.Error(name, list)
		}
	}
	for name, owed := range badOwed() {
		if list := impl.SettleFast(owed); list != nil {
			t.Error(name, list)
		}
	}
}

func TestGroupsMost(t *testing.T) {
	for name, x := range settled {
		if groups := impl.GroupsMost(x.owed); groups != x.groups {
			t.Error(name, groups)
		}
	}
	for name, owed := range badOwed() {
		if groups := impl.GroupsMost(owed); groups != -1 {
			t.Error(name, groups)
		}
	}
}

func TestSettleLeast(t *testing.T) {
	for name, x := range settled {
		if least := impl.SettleLeast(x.owed); least != openOf(x.owed)-x.groups {
			t.Error(name, least)
		}
	}
	for name, owed := range badOwed() {
		if least := impl.SettleLeast(owed); least != -1 {
			t.Error(name, least)
		}
	}
}

func TestSettleBest(t *testing.T) {
	for name, x := range settled {
		if list := impl.SettleBest(x.owed); !slices.Equal(list, x.best) {
			t.Error(name, list)
		}
	}
	for name, owed := range badOwed() {
		if list := impl.SettleBest(owed); list != nil {
			t.Error(name, list)
		}
	}
}

func TestSettleOfFewPeople(t *testing.T) {
	for many := range 6 {
		eachList(many, 6, func(list []int) {
			owed := slices.Clone(list)
			for i := range owed {
				owed[i] -= 3
			}
			if sumOf(owed) != 0 {
				return
			}
			if fast := impl.SettleFast(owed); !slices.Equal(fast, fastPays(owed)) {
				t.Error("fast", owed, fast)
			}
			if best := impl.SettleBest(owed); !slices.Equal(best, bestPays(owed)) {
				t.Error("best", owed, best)
			}
			if groups := impl.GroupsMost(owed); groups != len(bestGroups(owed)) {
				t.Error("groups", owed, groups)
			}
		})
	}
}

func TestBillsKeepTheirArguments(t *testing.T) {
	forSeeds(t, 300, func(t *testing.T, r *rand.Rand) {
		shares, owed := randomShares(r), randomOwed(r, impl.MaxPeople)
		paid := randomPaid(r, len(shares))
		wasShares, wasPaid, wasOwed := slices.Clone(shares), slices.Clone(paid), slices.Clone(owed)
		impl.GroupsMost(owed)
		impl.SettleLeast(owed)
		fast, best := impl.SettleFast(owed), impl.SettleBest(owed)
		wasFast, wasBest := slices.Clone(fast), slices.Clone(best)
		impl.PaysOk(owed, fast)
		impl.PaysOk(owed, best)
		if !slices.Equal(fast, wasFast) || !slices.Equal(best, wasBest) {
			t.Error("payments that are arguments", owed, fast, best)
		}
		spoilPays(fast)
		if !slices.Equal(best, wasBest) {
			t.Error("payments share memory", owed, best)
		}
		spoilPays(best)
		parts, due := impl.ShareOf(shares, 100), impl.OwedOf(shares, paid)
		wasDue := slices.Clone(due)
		spoil(parts)
		if !slices.Equal(due, wasDue) {
			t.Error("results share memory", shares, paid, due)
		}
		spoil(due)
		if !slices.Equal(shares, wasShares) || !slices.Equal(paid, wasPaid) || !slices.Equal(owed, wasOwed) {
			t.Error("arguments", shares, paid, owed)
		}
		if again := impl.SettleBest(owed); !slices.Equal(again, wasBest) {
			t.Error("another time", owed, again)
		}
	})
}
