package tests

import (
	"math"
	"math/rand/v2"
	"slices"
	"strings"
	"testing"

	"loop.example/restaurantkitchen/impl"
)

// refusesBadHouses checks that houses which are not valid are refused.
func refusesBadHouses(t *testing.T, refused func(h impl.House) bool) {
	t.Helper()
	for name, h := range badHouses() {
		if !refused(h) {
			t.Error(name)
		}
	}
}

// someHouse returns a valid house, with the items of the document's example or any other ones.
func someHouse(r *rand.Rand) impl.House {
	h := randomHouse(r)
	if r.IntN(2) > 0 {
		return h
	}
	h.Items, h.Prices, h.Stock, h.Tables = pantry(), amounts(r, 4, impl.MaxPrice), amounts(r, 4, impl.MaxWant), nil
	for range between(r, 0, impl.MaxTables) {
		h.Tables = append(h.Tables, randomTable(r, h.Items))
	}
	return h
}

// checkDeed checks that a deed leads to the house to which it should, and returns this house and whether it was done.
func checkDeed(t *testing.T, h impl.House, d impl.HouseDeed) (impl.House, bool) {
	t.Helper()
	then, ok := impl.HouseDo(h, d)
	want, wantOk := deedDone(h, d)
	if ok != wantOk || !sameHouse(then, want) {
		t.Error("deed", h, d, then, ok)
	}
	if !impl.HouseValid(then) || !isPossible(then) {
		t.Error("not valid", h, d, then)
	}
	return then, ok
}

// stockBy tells what a deed that was done does to the stock of a house: what is bought and made is more, what is used for others and ordered is less.
func stockBy(h impl.House, d impl.HouseDeed) []int {
	stock := slices.Clone(h.Stock)
	switch d.Kind {
	case impl.HdBuy:
		stock[d.One] += d.Two
	case impl.HdMake:
		stock[d.One] += d.Two * h.Items[d.One].Yield
		for _, p := range h.Items[d.One].Parts {
			stock[p.Of] -= d.Two * p.Many
		}
	case impl.HdOrder:
		stock[d.Two]--
	}
	return stock
}

func TestP24NoDishComesOutOfNothing(t *testing.T) {
	var done, not [6]int
	forSeeds(t, 1500, func(t *testing.T, r *rand.Rand) {
		h := someHouse(r)
		for range 40 {
			d := randomDeed(r, h)
			then, ok := checkDeed(t, h, d)
			if ok {
				done[d.Kind]++
				if !slices.Equal(then.Stock, stockBy(h, d)) {
					t.Error("stock", h, d, then)
				}
			} else if d.Kind >= 0 && d.Kind < len(not) {
				not[d.Kind]++
			}
			for _, x := range then.Tables {
				for _, item := range x.Of {
					if !slices.Contains(canHave(h.Items, x.Avoid), item) {
						t.Error("avoided", h, d, then)
					}
				}
			}
			h = then
		}
	})
	if slices.Min(done[:]) < 500 || slices.Min(not[:]) < 500 {
		t.Error("too few of a kind", done, not)
	}
	refusesBadHouses(t, func(h impl.House) bool {
		then, ok := impl.HouseDo(h, deedOf(impl.HdOpen))
		return !ok && isNothing(then)
	})
}

func TestP24InTwoParts(t *testing.T) {
	some := 0
	forSeeds(t, 1000, func(t *testing.T, r *rand.Rand) {
		h := someHouse(r)
		list := randomDeeds(r, h, between(r, 0, 40))
		all, many := impl.HouseRun(h, list)
		step, steps := h, 0
		for _, d := range list {
			then, ok := deedDone(step, d)
			step = then
			steps += oneIf(ok)
		}
		if many != steps || !sameHouse(all, step) {
			t.Error("step by step", h, list, all, many)
		}
		cut := between(r, 0, len(list))
		part, first := impl.HouseRun(h, list[:cut])
		part, second := impl.HouseRun(part, list[cut:])
		if many != first+second || !sameHouse(all, part) {
			t.Error("two parts", h, list, cut)
		}
		some += oneIf(first > 3 && second > 3)
	})
	if some < 100 {
		t.Error("too few deeds", some)
	}
	refusesBadHouses(t, func(h impl.House) bool {
		then, many := impl.HouseRun(h, []impl.HouseDeed{deedOf(impl.HdOpen)})
		return many == 0 && isNothing(then)
	})
}

func TestP25InTheEndEverybodyIsServedAndHasPaid(t *testing.T) {
	room, none := 0, 0
	forSeeds(t, 2000, func(t *testing.T, r *rand.Rand) {
		h := someHouse(r)
		list := impl.EndDeeds(h)
		if !slices.Equal(list, endOf(h)) {
			t.Error("deeds", h, list)
		}
		then, many := impl.HouseRun(h, list)
		worth := h.Cash + openPrices(h)
		if worth > impl.MaxCash {
			none++
			if len(then.Tables) == 0 || impl.WorkLeft(ticketsOf(then)) != 0 {
				t.Error("no room", h, then)
			}
			return
		}
		if many != len(list) || len(then.Tables) != 0 || then.Cash != worth || !slices.Equal(then.Stock, h.Stock) {
			t.Error("end", h, then, many)
		}
		served, _ := impl.HouseRun(h, list[:len(list)-len(h.Tables)])
		if impl.HouseWorth(served) != worth {
			t.Error("with everything served", h, served)
		}
		for _, d := range list {
			next, ok := impl.HouseDo(h, d)
			if !ok {
				t.Error("not done", h, d)
			}
			h = next
		}
		room += oneIf(len(list) > 10)
	})
	if room < 200 || none < 50 {
		t.Error("too few of a kind", room, none)
	}
	refusesBadHouses(t, func(h impl.House) bool { return impl.EndDeeds(h) == nil })
}

func TestP25WithJustRoomEnough(t *testing.T) {
	for name, x := range houses() {
		h := x.house
		h.Cash = impl.MaxCash - openPrices(h)
		if then, many := impl.HouseRun(h, impl.EndDeeds(h)); many != len(impl.EndDeeds(h)) || len(then.Tables) != 0 || then.Cash != impl.MaxCash {
			t.Error(name, then, many)
		}
		if openPrices(h) == 0 {
			continue
		}
		h.Cash++
		if then, _ := impl.HouseRun(h, impl.EndDeeds(h)); len(then.Tables) == 0 || then.Cash > impl.MaxCash {
			t.Error("no room", name, then)
		}
	}
}

// textDeeds returns deeds that have texts, whether they can be done or not.
func textDeeds(r *rand.Rand, h impl.House, many int) []impl.HouseDeed {
	return slices.DeleteFunc(randomDeeds(r, h, many), func(d impl.HouseDeed) bool { return textOf(d) == "" })
}

func TestP26WhereverAJournalIsCut(t *testing.T) {
	long := 0
	forSeeds(t, 500, func(t *testing.T, r *rand.Rand) {
		h := someHouse(r)
		list := textDeeds(r, h, between(r, 0, 30))
		text := impl.JournalText(list)
		for cut := range len(text) + 1 {
			lines := strings.Count(text[:cut], "\n")
			read, many := impl.ReadJournal(text[:cut])
			if !slices.Equal(read, list[:lines]) || many != strings.LastIndex(text[:cut], "\n")+1 {
				t.Errorf("cut %q %v %d", text[:cut], read, many)
				return
			}
			if impl.JournalText(read) != text[:many] {
				t.Errorf("text %q %v", text[:cut], read)
			}
		}
		now := h
		for i, line := range strings.Split(strings.TrimSuffix(text, "\n"), "\n") {
			if text == "" {
				break
			}
			run, many := impl.HouseRun(h, list[:i+1])
			_, before := impl.HouseRun(h, list[:i])
			then, answer := impl.HouseLine(now, line)
			if !sameHouse(then, run) || answer != []string{"no", "ok"}[many-before] {
				t.Error("line by line", h, list[:i+1], then, answer)
			}
			now = then
		}
		long += oneIf(len(list) > 10)
	})
	if long < 200 {
		t.Error("too few long ones", long)
	}
}

func TestP27WhateverIsSaidInTheEndNobodyWaits(t *testing.T) {
	seen := map[string]int{}
	forSeeds(t, 1000, func(t *testing.T, r *rand.Rand) {
		h := someHouse(r)
		lines := randomLines(r, h, between(r, 0, impl.MaxLinesText))
		then, answers := impl.HouseLines(h, lines)
		cut := between(r, 0, len(lines))
		part, first := impl.HouseLines(h, lines[:cut])
		part, second := impl.HouseLines(part, lines[cut:])
		if !sameHouse(then, part) || !slices.Equal(answers, append(first, second...)) {
			t.Error("two parts", h, lines, cut)
		}
		step := h
		for i, line := range lines {
			next, answer := lineDone(step, line)
			if answers[i] == "" || answers[i] != answer {
				t.Error("answer", step, line, answers[i])
			}
			step = next
			seen[answer]++
		}
		if !sameHouse(then, step) {
			t.Error("line by line", h, lines, then)
		}
		end, last := impl.HouseLines(then, []string{"end", "tables", "left"})
		if then.Cash+openPrices(then) <= impl.MaxCash && (len(end.Tables) != 0 || !slices.Equal(last, []string{"ok", "0", "0"})) {
			t.Error("end", then, end, last)
		}
	})
	for _, answer := range []string{"ok", "no", "what", "none", "0"} {
		if seen[answer] < 200 {
			t.Error("too few", answer, seen[answer])
		}
	}
	refusesBadHouses(t, func(h impl.House) bool {
		then, answers := impl.HouseLines(h, []string{"cash", "end"})
		return isNothing(then) && answers == nil
	})
}

func TestP84NobodyEverHasADishThatIsAvoided(t *testing.T) {
	avoided := 0
	forSeeds(t, 1500, func(t *testing.T, r *rand.Rand) {
		h := randomHouse(r)
		if !impl.HouseValid(h) {
			t.Error("valid", h)
		}
		for i, x := range h.Tables {
			for avoid := range impl.MaxMark + 1 {
				other := copyHouse(h)
				other.Tables[i].Avoid = avoid
				may := !slices.ContainsFunc(x.Of, func(item int) bool { return impl.MarksOf(h.Items, item)&avoid != 0 })
				if impl.HouseValid(other) != may {
					t.Error("avoids", other, i)
				}
				avoided += oneIf(!may)
			}
			for k := range x.Of {
				for item := -1; item <= len(h.Items); item++ {
					other := copyHouse(h)
					other.Tables[i].Of[k] = item
					if impl.HouseValid(other) != slices.Contains(canHave(h.Items, x.Avoid), item) {
						t.Error("item", other, i, k)
					}
				}
			}
		}
		h.Tables = nil
		if !impl.HouseValid(h) {
			t.Error("without tables", h)
		}
	})
	if avoided < 1000 {
		t.Error("too few", avoided)
	}
	refusesBadHouses(t, func(h impl.House) bool { return !impl.HouseValid(h) })
}

func TestP85OnlyWhatWasServedIsPaidFor(t *testing.T) {
	some := 0
	forSeeds(t, 1500, func(t *testing.T, r *rand.Rand) {
		h := someHouse(r)
		for i, x := range h.Tables {
			bill := impl.TableBill(h, i)
			if bill != pricesOf(h, x, "s") || bill < 0 || bill > pricesOf(h, x, "ofcst") {
				t.Error("bill", h, i, bill)
			}
			if !slices.ContainsFunc(x.Dishes, func(x impl.Order) bool { return x.State == impl.StServed }) && bill != 0 {
				t.Error("nothing was served", h, i, bill)
			}
			some += oneIf(bill > 0)
		}
		if impl.TableBill(h, -1) != -1 || impl.TableBill(h, len(h.Tables)) != -1 {
			t.Error("no such table", h)
		}
	})
	if some < 200 {
		t.Error("too few bills", some)
	}
	refusesBadHouses(t, func(h impl.House) bool { return impl.TableBill(h, 0) == -1 })
}

func TestP86AHouseIsWorthItsMoneyAndItsBills(t *testing.T) {
	more, past := 0, 0
	forSeeds(t, 2000, func(t *testing.T, r *rand.Rand) {
		h := someHouse(r)
		worth, want := impl.HouseWorth(h), h.Cash
		for i, x := range h.Tables {
			want += pricesOf(h, x, "s")
			if impl.TableBill(h, i) > 0 {
				more++
			}
		}
		if worth != want || worth < h.Cash {
			t.Error("worth", h, worth)
		}
		past += oneIf(worth > impl.MaxCash)
		h.Tables = nil
		if impl.HouseWorth(h) != h.Cash {
			t.Error("without tables", h)
		}
	})
	if more < 200 || past < 10 {
		t.Error("too few of a kind", more, past)
	}
	refusesBadHouses(t, func(h impl.House) bool { return impl.HouseWorth(h) == -1 })
}

func TestP87DeedsKeepHousesValid(t *testing.T) {
	done, less := 0, 0
	forSeeds(t, 3000, func(t *testing.T, r *rand.Rand) {
		h := someHouse(r)
		for range 10 {
			d := randomDeed(r, h)
			then, ok := checkDeed(t, h, d)
			if ok == sameHouse(then, h) {
				t.Error("another one", h, d, then, ok)
			}
			if !slices.EqualFunc(then.Items, h.Items, sameItem) || !slices.Equal(then.Prices, h.Prices) {
				t.Error("items and prices", h, d, then)
			}
			if then.Cash < h.Cash && d.Kind != impl.HdBuy || d.Kind == impl.HdClose && then.Cash < h.Cash {
				t.Error("cash", h, d, then)
			}
			done += oneIf(ok)
			less += oneIf(then.Cash < h.Cash)
		}
	})
	if done < 1000 || less < 100 {
		t.Error("too few of a kind", done, less)
	}
	refusesBadHouses(t, func(h impl.House) bool {
		then, ok := impl.HouseDo(h, deedOf(impl.HdWork))
		return !ok && isNothing(then)
	})
}

// TestP87EveryDeed tries every deed whose numbers are near those that are possible.
func TestP87EveryDeed(t *testing.T) {
	full := houses()["all states"].house
	full.Cash = 50
	for _, h := range []impl.House{diner(), bistro(), full, {}} {
		done := 0
		for kind := -1; kind <= 6; kind++ {
			for _, one := range []int{math.MinInt, -1, 0, 1, 2, 3, 4, 5, 6, 31, 32, math.MaxInt} {
				for _, two := range []int{math.MinInt, -1, 0, 1, 2, 3, 4, 5, 25, 26, 46, 47, 50, 51, math.MaxInt} {
					for _, three := range []int{math.MinInt, -1, 0, 1, 2, 3, math.MaxInt} {
						_, ok := checkDeed(t, h, deedOf(kind, one, two, three))
						done += oneIf(ok)
					}
				}
			}
		}
		if len(h.Items) > 0 && done < 5 {
			t.Error("too few", h, done)
		}
	}
}

func TestP88TextsOfDeedsAreRead(t *testing.T) {
	some := 0
	for kind := -1; kind <= 6; kind++ {
		for _, one := range []int{-1, 0, 1, 9, 10, 99, 100, 101, 999, 1000} {
			for _, two := range []int{-1, 0, 1, 9, 10, 99, 100, 999, 1000} {
				for _, three := range []int{-1, 0, 1, 10, 999, 1000} {
					d := deedOf(kind, one, two, three)
					text := impl.DeedText(d)
					if text != textOf(d) {
						t.Error("text", d, text)
					}
					if got, ok := impl.ReadDeed(text); text != "" && (!ok || got != d) {
						t.Error("read", d, text, got, ok)
					}
					some += oneIf(text != "")
				}
			}
		}
	}
	if some != 2*8*7+8+8*7*4+1+8 {
		t.Error("how many have texts", some)
	}
	for n := range 1000 {
		for _, d := range []impl.HouseDeed{deedOf(impl.HdBuy, n, 999-n), deedOf(impl.HdMake, 999-n, n), deedOf(impl.HdOpen, n), deedOf(impl.HdOrder, n, 999-n, n), deedOf(impl.HdClose, n)} {
			if got, ok := impl.ReadDeed(impl.DeedText(d)); !ok || got != d || impl.DeedText(d) != textOf(d) {
				t.Error(d, got, ok)
			}
		}
	}
	for _, d := range badDeeds() {
		if impl.DeedText(d) != "" {
			t.Error("has no text", d)
		}
	}
}

// randomText returns a text that is made of pieces of texts of deeds.
func randomText(r *rand.Rand) string {
	if r.IntN(2) == 0 {
		return edited(r, impl.DeedText(deedOf(between(r, 0, 5))))
	}
	pieces := []string{"buy", "make", "open", "order", "work", "close", " ", " ", " ", " 0", " 1", " 20", " 999", " 1000", " 01", " -1", " +2", "\n", "x", "0", "9", "\x00", "\xff"}
	text := pieces[r.IntN(6)]
	for range r.IntN(6) {
		text += pieces[r.IntN(len(pieces))]
	}
	return text
}

// edited returns a text with other characters, or without some.
func edited(r *rand.Rand, text string) string {
	for range r.IntN(3) {
		i := r.IntN(len(text))
		text = text[:i] + string("0123 \n-+a"[r.IntN(9)]) + text[min(len(text), i+r.IntN(3)):]
	}
	return text
}

func TestP89ReadTextsAreCanonical(t *testing.T) {
	read, refused := 0, 0
	forSeeds(t, 20000, func(t *testing.T, r *rand.Rand) {
		text := randomText(r)
		d, ok := impl.ReadDeed(text)
		want, wantOk := deedIn(text)
		if ok != wantOk || d != want {
			t.Errorf("%q %v %v", text, d, ok)
		}
		if !ok {
			refused++
			return
		}
		read++
		if impl.DeedText(d) != text {
			t.Errorf("canonical %q %v", text, d)
		}
		for _, other := range []string{text + " ", " " + text, text + "\n", text + "0000", text + " 0 0 0", strings.Replace(text, " ", "  ", 1) + " "} {
			if got, ok := impl.ReadDeed(other); ok || got != (impl.HouseDeed{}) {
				t.Errorf("not refused %q %v", other, got)
			}
		}
	})
	if read < 1000 || refused < 1000 {
		t.Error("too few of a kind", read, refused)
	}
	for _, text := range badLines() {
		if d, ok := impl.ReadDeed(text); ok || d != (impl.HouseDeed{}) {
			t.Errorf("%q %v", text, d)
		}
	}
}

func TestP90JournalsAreRead(t *testing.T) {
	whole, parts := 0, 0
	forSeeds(t, 1000, func(t *testing.T, r *rand.Rand) {
		list := textDeeds(r, diner(), between(r, 0, 60))
		text := impl.JournalText(list)
		want := ""
		for _, d := range list {
			want += textOf(d) + "\n"
		}
		if text != want {
			t.Errorf("text %v %q", list, text)
		}
		if read, many := impl.ReadJournal(text); !slices.Equal(read, list) || many != len(text) {
			t.Errorf("read %q %v %d", text, read, many)
		}
		whole += oneIf(len(list) > 5)
		// With another line somewhere, what is before it is read.
		bad := badLines()
		line := bad[r.IntN(len(bad))]
		cut := between(r, 0, len(list))
		before := impl.JournalText(list[:cut])
		if strings.Contains(line, "\n") {
			return
		}
		if read, many := impl.ReadJournal(before + line + "\n" + impl.JournalText(list[cut:])); !slices.Equal(read, list[:cut]) || many != len(before) {
			t.Errorf("with another line %q %q %v %d", before, line, read, many)
		}
		parts += oneIf(cut > 0 && cut < len(list))
	})
	if whole < 500 || parts < 500 {
		t.Error("too few of a kind", whole, parts)
	}
	for _, d := range badDeeds() {
		if impl.JournalText([]impl.HouseDeed{deedOf(impl.HdWork), d}) != "" {
			t.Error("has no text", d)
		}
	}
}

func TestP91QuestionsChangeNothing(t *testing.T) {
	seen := map[string]int{}
	forSeeds(t, 3000, func(t *testing.T, r *rand.Rand) {
		h := someHouse(r)
		line := randomLine(r, h)
		then, answer := impl.HouseLine(h, line)
		want, wantAnswer := lineDone(h, line)
		if answer != wantAnswer || !sameHouse(then, want) {
			t.Errorf("%v %q %v %s", h, line, then, answer)
		}
		if !impl.HouseValid(then) || answer == "" {
			t.Errorf("valid %v %q %v", h, line, then)
		}
		if answer != "ok" && !sameHouse(then, h) {
			t.Errorf("changed %v %q %v %s", h, line, then, answer)
		}
		seen[answer]++
		for _, none := range []string{"", " "} {
			if same, answer := impl.HouseLine(h, none); answer != "what" || !sameHouse(same, h) {
				t.Errorf("%v %q %v %s", h, none, same, answer)
			}
		}
	})
	for _, answer := range []string{"ok", "no", "what", "none"} {
		if seen[answer] < 50 {
			t.Error("too few", answer, seen[answer])
		}
	}
	refusesBadHouses(t, func(h impl.House) bool {
		then, answer := impl.HouseLine(h, "stock")
		return isNothing(then) && answer == ""
	})
}

// TestP91EveryNumberOfAQuestion asks for every table and every set that a question can name.
func TestP91EveryNumberOfAQuestion(t *testing.T) {
	h := houses()["all states"].house
	for _, word := range []string{"bill ", "free "} {
		for n := range 300 {
			for _, line := range []string{word + listed([]int{n}), word + "0" + listed([]int{n}), word + listed([]int{-n - 1}), word + listed([]int{99999 - n}), word + listed([]int{100000 + n})} {
				then, answer := impl.HouseLine(h, line)
				want, wantAnswer := lineDone(h, line)
				if answer != wantAnswer || !sameHouse(then, want) {
					t.Errorf("%q %s", line, answer)
				}
			}
		}
	}
}
