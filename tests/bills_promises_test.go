package tests

import (
	"math/rand/v2"
	"slices"
	"testing"

	"loop.example/restaurantkitchen/impl"
)

// refusesBadShares checks that shares which are not valid are refused.
func refusesBadShares(t *testing.T, refused func(shares []int) bool) {
	t.Helper()
	for name, shares := range badShares() {
		if !refused(shares) {
			t.Error(name)
		}
	}
}

// refusesBadOwed checks that numbers which are not owed are refused.
func refusesBadOwed(t *testing.T, refused func(owed []int) bool) {
	t.Helper()
	for name, owed := range badOwed() {
		if !refused(owed) {
			t.Error(name)
		}
	}
}

// checkParts checks how a sum is shared, and returns how many get a cent that was left.
func checkParts(t *testing.T, shares []int, sum int) int {
	t.Helper()
	parts, all, more := impl.ShareOf(shares, sum), sumOf(shares), 0
	if len(parts) != len(shares) || sumOf(parts) != sum {
		t.Error("together", shares, sum, parts)
		return 0
	}
	for i, part := range parts {
		exact := sum * shares[i]
		if part*all <= exact-all || part*all >= exact+all {
			t.Error("a cent or more", shares, sum, parts, i)
		}
		more += oneIf(part*all > exact)
		for k, other := range parts {
			if shares[i] > shares[k] && part < other {
				t.Error("a greater share gets less", shares, sum, parts, i, k)
			}
		}
	}
	if !slices.Equal(parts, partsOf(shares, sum)) {
		t.Error("the greatest remainders", shares, sum, parts)
	}
	return more
}

func TestP17ToTheLastCent(t *testing.T) {
	left := 0
	forSeeds(t, 3000, func(t *testing.T, r *rand.Rand) {
		left += oneIf(checkParts(t, randomShares(r), randomSum(r)) > 1)
	})
	if left < 500 {
		t.Error("too few sums of which cents are left", left)
	}
	refusesBadShares(t, func(shares []int) bool { return impl.ShareOf(shares, 10) == nil })
	for _, sum := range badSums {
		if parts := impl.ShareOf([]int{1, 2}, sum); parts != nil {
			t.Error(sum, parts)
		}
	}
}

func TestP17AllSmallShares(t *testing.T) {
	for many := range 5 {
		eachList(many, 3, func(shares []int) {
			for sum := 0; sum <= 25 && sumOf(shares) > 0; sum++ {
				checkParts(t, shares, sum)
			}
		})
	}
}

func TestP18NoPaymentsAreFewer(t *testing.T) {
	for owed, many := range leastPays(4, 2) {
		least := impl.SettleLeast(owed[:])
		if least > many || least < 0 {
			t.Error("fewer are enough", owed, many, least)
		}
		// Payments of more than 2 are not tried, but they are not needed where nobody is owed more.
		if slices.Max(owed[:]) <= 2 && slices.Min(owed[:]) >= -2 && least != many {
			t.Error("so few are not enough", owed, many, least)
		}
	}
	refusesBadOwed(t, func(owed []int) bool { return impl.SettleLeast(owed) == -1 })
}

// TestP18WhateverIsPaid checks payments that lead to what is owed, and others that do not.
func TestP18WhateverIsPaid(t *testing.T) {
	fewest := 0
	forSeeds(t, 3000, func(t *testing.T, r *rand.Rand) {
		people := between(r, 2, impl.MaxPeople)
		list := randomPays(r, people, 8)
		owed := gets(people, list)
		if !impl.PaysOk(owed, list) || impl.SettleLeast(owed) > len(list) {
			t.Error("settles", owed, list)
		}
		fewest += oneIf(len(list) > 0 && impl.SettleLeast(owed) == len(list))
		if impl.PaysOk(owed, append(slices.Clone(list), randomPay(r, people, impl.MaxSum))) {
			t.Error("one more", owed, list)
		}
		for i, p := range list {
			p.Sum++
			if impl.PaysOk(owed, slices.Delete(slices.Clone(list), i, i+1)) || impl.PaysOk(owed, slices.Replace(slices.Clone(list), i, i+1, p)) {
				t.Error("one less, or of another sum", owed, list, i)
			}
		}
	})
	if fewest < 100 {
		t.Error("too few that are the fewest", fewest)
	}
}

func TestP18EveryPaymentOfThreePeople(t *testing.T) {
	ok, none := 0, 0
	var all []impl.Pay
	eachPay(3, 2, func(p impl.Pay) { all = append(all, p) })
	for _, owed := range [][]int{{0, 0, 0}, {1, -1, 0}, {2, -1, -1}, {-2, 0, 2}, {-3, 2, 1}, {4, -4, 0}} {
		for many := range 4 {
			eachList(many, len(all)-1, func(which []int) {
				list := make([]impl.Pay, many)
				for i, k := range which {
					list[i] = all[k]
				}
				settles := slices.Equal(gets(3, list), owed)
				if impl.PaysOk(owed, list) != settles {
					t.Error("settles", owed, list, settles)
				}
				if settles && len(list) < impl.SettleLeast(owed) {
					t.Error("fewer", owed, list)
				}
				ok += oneIf(settles)
				none += oneIf(!settles)
			})
		}
	}
	if ok < 100 || none < 1000 {
		t.Error("too few of a kind", ok, none)
	}
}

func TestP19FewerCannotBeAndSoFewCan(t *testing.T) {
	more, none := 0, 0
	forSeeds(t, 2000, func(t *testing.T, r *rand.Rand) {
		owed := randomOwed(r, impl.MaxPeople)
		best, fast, least := impl.SettleBest(owed), impl.SettleFast(owed), impl.SettleLeast(owed)
		if len(best) != least || !impl.PaysOk(owed, best) || !slices.Equal(gets(len(owed), best), owed) {
			t.Error("best", owed, best, least)
		}
		if least != openOf(owed)-len(bestGroups(owed)) {
			t.Error("least", owed, least)
		}
		if len(fast) < least || len(fast) > 0 && len(fast) >= 2*least {
			t.Error("fast", owed, fast, least)
		}
		more += oneIf(len(fast) > least)
		none += oneIf(least == 0)
	})
	if more < 50 || none < 50 {
		t.Error("too few of a kind", more, none)
	}
	refusesBadOwed(t, func(owed []int) bool {
		return impl.SettleBest(owed) == nil && impl.SettleFast(owed) == nil && impl.SettleLeast(owed) == -1
	})
}

func TestP67SomebodyHasAShare(t *testing.T) {
	for many := range impl.MaxPeople + 3 {
		fits := 1 <= many && many <= impl.MaxPeople
		if impl.SharesValid(make([]int, many)) {
			t.Error("without shares", many)
		}
		for share := -1; share <= impl.MaxShare+1; share++ {
			want := fits && 1 <= share && share <= impl.MaxShare
			if got := impl.SharesValid(slices.Repeat([]int{share}, many)); got != want {
				t.Error("the same for all", many, share, got)
			}
		}
		for i := 0; i < many && fits; i++ {
			if !impl.SharesValid(with(make([]int, many), i, 1)) || impl.SharesValid(with(slices.Repeat([]int{1}, many), i, -1)) || impl.SharesValid(with(slices.Repeat([]int{1}, many), i, impl.MaxShare+1)) {
				t.Error("one of them", many, i)
			}
		}
	}
	refusesBadShares(t, func(shares []int) bool { return !impl.SharesValid(shares) })
}

func TestP68TipsAreNeverLessThanTheyShouldBe(t *testing.T) {
	for sum := range impl.MaxSum + 1 {
		for percent := range 101 {
			tip := impl.TipOf(sum, percent)
			if tip*100 < sum*percent || tip*100 >= sum*percent+100 {
				t.Fatal("tip", sum, percent, tip)
			}
		}
		if impl.TipOf(sum, 100) != sum || impl.TipOf(sum, 0) != 0 || impl.TipOf(sum, 101) != -1 || impl.TipOf(sum, -1) != -1 {
			t.Fatal("the whole, nothing, and past both", sum)
		}
	}
	for _, sum := range badSums {
		for percent := range 101 {
			if tip := impl.TipOf(sum, percent); tip != -1 {
				t.Error("no such sum", sum, percent, tip)
			}
		}
	}
}

func TestP69DebtsAreTogetherNothing(t *testing.T) {
	forSeeds(t, 1000, func(t *testing.T, r *rand.Rand) {
		owed := randomOwed(r, impl.MaxPeople)
		if !impl.OwedValid(owed) || !impl.OwedValid(negated(owed)) {
			t.Error("valid", owed)
		}
		for i, n := range owed {
			if impl.OwedValid(with(owed, i, n+1)) || impl.OwedValid(with(owed, i, n-1)) {
				t.Error("a cent", owed, i)
			}
			if n != 0 && impl.OwedValid(slices.Delete(slices.Clone(owed), i, i+1)) {
				t.Error("one is missing", owed, i)
			}
		}
	})
	if !impl.OwedValid(make([]int, impl.MaxPeople)) || impl.OwedValid(make([]int, impl.MaxPeople+1)) {
		t.Error("as many as there may be")
	}
	refusesBadOwed(t, func(owed []int) bool { return !impl.OwedValid(owed) && !impl.OwedValid(negated(owed)) })
}

func TestP70WhoHasPaidJustTheShareIsOwedNothing(t *testing.T) {
	forSeeds(t, 2000, func(t *testing.T, r *rand.Rand) {
		shares, sum := randomShares(r), randomSum(r)
		if owed := impl.OwedOf(shares, impl.ShareOf(shares, sum)); !slices.Equal(owed, make([]int, len(shares))) {
			t.Error("just the share", shares, sum, owed)
		}
		paid := randomPaid(r, len(shares))
		owed := impl.OwedOf(shares, paid)
		if len(owed) != len(shares) || !impl.OwedValid(owed) {
			t.Error("valid", shares, paid, owed)
			return
		}
		parts := partsOf(shares, sumOf(paid))
		for i, n := range owed {
			if n != paid[i]-parts[i] {
				t.Error("less the share", shares, paid, owed, i)
			}
			// What is left of MaxSum can be paid by one more of them, but not a cent more.
			room := paid[i] + impl.MaxSum - sumOf(paid)
			if impl.OwedOf(shares, with(paid, i, room)) == nil || impl.OwedOf(shares, with(paid, i, room+1)) != nil {
				t.Error("as much as there may be", shares, paid, i)
			}
			if impl.OwedOf(shares, with(paid, i, -1)) != nil || impl.OwedOf(shares, paid[:i]) != nil {
				t.Error("what cannot be paid", shares, paid, i)
			}
		}
	})
	refusesBadShares(t, func(shares []int) bool { return impl.OwedOf(shares, make([]int, len(shares))) == nil })
}

func TestP71EverybodyIsSoonEven(t *testing.T) {
	fewer := 0
	forSeeds(t, 2000, func(t *testing.T, r *rand.Rand) {
		owed := randomOwed(r, impl.MaxPeople)
		list := impl.SettleFast(owed)
		if !impl.PaysOk(owed, list) || !slices.Equal(gets(len(owed), list), owed) {
			t.Error("settles", owed, list)
		}
		if len(list) > 0 && len(list) >= openOf(owed) || (len(list) == 0) != (openOf(owed) == 0) {
			t.Error("fewer", owed, list)
		}
		if !slices.Equal(list, fastPays(owed)) {
			t.Error("who owes most to who is owed most", owed, list)
		}
		fewer += oneIf(len(list) > 0 && len(list) < openOf(owed)-1)
	})
	if fewer < 50 {
		t.Error("too few of which two are even at once", fewer)
	}
	refusesBadOwed(t, func(owed []int) bool { return impl.SettleFast(owed) == nil })
}

func TestP72GroupsSettleAmongThemselves(t *testing.T) {
	some := map[int]int{}
	forSeeds(t, 2000, func(t *testing.T, r *rand.Rand) {
		owed := randomOwed(r, impl.MaxPeople-2)
		groups := impl.GroupsMost(owed)
		some[groups]++
		if groups != len(bestGroups(owed)) || 2*groups > openOf(owed) {
			t.Error("groups", owed, groups)
		}
		for _, sum := range []int{1, 2, 3, between(r, 1, impl.MaxSum), impl.MaxSum} {
			place := between(r, 0, len(owed))
			two := append(slices.Insert(slices.Clone(owed), place, sum), -sum)
			if impl.GroupsMost(two) != groups+1 || impl.GroupsMost(negated(two)) != groups+1 {
				t.Error("two more", owed, two, groups)
			}
			even := slices.Insert(slices.Clone(owed), place, 0)
			if impl.GroupsMost(even) != groups {
				t.Error("one more who is even", owed, even, groups)
			}
		}
	})
	for groups := range 3 {
		if some[groups] < 100 {
			t.Error("too few of a kind", groups, some[groups])
		}
	}
	refusesBadOwed(t, func(owed []int) bool { return impl.GroupsMost(owed) == -1 })
}

func TestP73TheFewestPaymentsSettleEverything(t *testing.T) {
	several := 0
	forSeeds(t, 2000, func(t *testing.T, r *rand.Rand) {
		owed := randomOwed(r, impl.MaxPeople)
		list := impl.SettleBest(owed)
		pays, paid := make([]int, len(owed)), make([]int, len(owed))
		for _, p := range list {
			if owed[p.From] >= 0 || owed[p.To] <= 0 {
				t.Error("in the wrong direction", owed, list, p)
			}
			pays[p.From] += p.Sum
			paid[p.To] += p.Sum
		}
		for i, n := range owed {
			if pays[i] != max(0, -n) || paid[i] != max(0, n) {
				t.Error("not just that", owed, list, i)
			}
		}
		if !slices.Equal(list, bestPays(owed)) {
			t.Error("group by group", owed, list)
		}
		several += oneIf(len(list)+1 < openOf(owed))
	})
	if several < 100 {
		t.Error("too few of several groups", several)
	}
	refusesBadOwed(t, func(owed []int) bool { return impl.SettleBest(owed) == nil })
}
