package tests

import (
	"math"
	"math/rand/v2"
	"slices"
	"testing"

	"loop.example/restaurantkitchen/impl"
)

// menus are guests with menus, with the fewest dishes that feed all, the dishes for the most first, and how many guests are apart at most.
var menus = map[string]struct {
	guestList
	least  int
	greedy []int
	apart  int
}{
	"nobody":                     {guestList{0, nil}, 0, nil, 0},
	"nobody, and dishes":         {guestList{0, make([]int, impl.MaxMenu)}, 0, nil, 0},
	"no dishes":                  {guestList{3, nil}, -1, nil, 3},
	"one without a dish":         {guestList{1, nil}, -1, nil, 1},
	"one with a dish":            {guestList{1, []int{1}}, 1, []int{0}, 1},
	"dishes for nobody":          {guestList{2, []int{0, 0, 0}}, -1, nil, 2},
	"first a dish for nobody":    {guestList{2, []int{0, 3}}, 2, []int{1}, 1},
	"example":                    {guestList{5, []int{3, 12, 5, 16}}, 11, []int{0, 1, 3}, 3},
	"one who eats nothing":       {guestList{5, []int{3, 12, 5}}, -1, []int{0, 1}, 3},
	"first who eats nothing":     {guestList{3, []int{6, 2, 4}}, -1, []int{0}, 2},
	"all who eat nothing":        {guestList{impl.MaxGuests, make([]int, impl.MaxMenu)}, -1, nil, 6},
	"all eat everything":         {guestList{impl.MaxGuests, slices.Repeat([]int{63}, impl.MaxMenu)}, 1, []int{0}, 1},
	"each one a dish":            {guestList{6, []int{32, 16, 8, 4, 2, 1}}, 63, []int{0, 1, 2, 3, 4, 5}, 6},
	"the last one for all":       {guestList{6, []int{7, 56, 31, 62, 1, 63}}, 32, []int{5}, 1},
	"the dish for most is none":  {guestList{6, []int{27, 7, 56}}, 6, []int{0, 1, 2}, 2},
	"of several the least sum":   {guestList{4, []int{3, 5, 10, 12}}, 6, []int{0, 3}, 2},
	"not the greatest indices":   {guestList{4, []int{1, 14, 3, 12, 7, 8}}, 3, []int{1, 0}, 2},
	"fewer, but of a larger sum": {guestList{4, []int{1, 2, 4, 8, 15}}, 16, []int{4}, 1},
	"the same dish twice":        {guestList{3, []int{6, 6, 1, 1}}, 5, []int{0, 2}, 2},
	"the first of several":       {guestList{4, []int{1, 6, 9, 6}}, 6, []int{1, 2}, 2},
	"what is new counts":         {guestList{6, []int{15, 14, 7, 48, 31}}, 9, []int{4, 3}, 2},
	"what is new, of small ones": {guestList{6, []int{7, 14, 48}}, 7, []int{0, 2, 1}, 3},
	"round a table":              {guestList{5, []int{3, 6, 12, 24, 17}}, 11, []int{0, 2, 3}, 2},
	"every two eat a same dish":  {guestList{3, []int{3, 5, 6}}, 3, []int{0, 1}, 1},
	"as many as there may be":    {guestList{6, []int{3, 12, 48, 21, 42, 0}}, 24, []int{3, 4}, 2},
}

func TestMenuValid(t *testing.T) {
	for name, x := range menus {
		if !impl.MenuValid(x.guests, x.sets) {
			t.Error(name)
		}
	}
	for name, x := range badMenus() {
		if impl.MenuValid(x.guests, x.sets) {
			t.Error(name)
		}
	}
}

func TestFedBy(t *testing.T) {
	guests, menu := dinner()
	for dishes, fed := range []int{0, 3, 12, 15, 5, 7, 13, 15, 16, 19, 28, 31, 21, 23, 29, 31} {
		if got := impl.FedBy(guests, menu, dishes); got != fed {
			t.Error(dishes, got)
		}
	}
	for _, dishes := range []int{16, 17, 31, 32, -1, -2, math.MinInt, math.MaxInt} {
		if got := impl.FedBy(guests, menu, dishes); got != -1 {
			t.Error("no such dishes", dishes, got)
		}
	}
	if impl.FedBy(0, nil, 0) != 0 || impl.FedBy(0, nil, 1) != -1 || impl.FedBy(0, []int{0}, 1) != 0 || impl.FedBy(6, slices.Repeat([]int{63}, 6), 63) != 63 || impl.FedBy(6, slices.Repeat([]int{63}, 6), 64) != -1 {
		t.Error("nobody, and all")
	}
	for name, x := range badMenus() {
		for _, dishes := range []int{0, 1, 3, -1} {
			if got := impl.FedBy(x.guests, x.sets, dishes); got != -1 {
				t.Error(name, dishes, got)
			}
		}
	}
}

func TestFeedsAll(t *testing.T) {
	guests, menu := dinner()
	for dishes := -1; dishes <= 33; dishes++ {
		if got := impl.FeedsAll(guests, menu, dishes); got != (dishes == 11 || dishes == 15) {
			t.Error(dishes, got)
		}
	}
	if !impl.FeedsAll(0, nil, 0) || !impl.FeedsAll(0, []int{0, 0}, 0) || !impl.FeedsAll(0, []int{0, 0}, 3) || impl.FeedsAll(0, nil, 1) || impl.FeedsAll(0, []int{0, 0}, 4) || impl.FeedsAll(0, nil, -1) {
		t.Error("nobody")
	}
	if impl.FeedsAll(1, nil, 0) || impl.FeedsAll(1, []int{0}, 1) || impl.FeedsAll(3, []int{6, 2, 4}, 7) {
		t.Error("who eats nothing")
	}
	for name, x := range badMenus() {
		for dishes := -1; dishes <= 64; dishes++ {
			if impl.FeedsAll(x.guests, x.sets, dishes) {
				t.Error(name, dishes)
			}
		}
	}
}

func TestDishesLeast(t *testing.T) {
	for name, x := range menus {
		if least := impl.DishesLeast(x.guests, x.sets); least != x.least {
			t.Error(name, least)
		}
	}
	for name, x := range badMenus() {
		if least := impl.DishesLeast(x.guests, x.sets); least != -1 {
			t.Error(name, least)
		}
	}
}

func TestDishesMany(t *testing.T) {
	for _, x := range []struct{ dishes, many int }{
		{0, 0}, {1, 1}, {2, 1}, {3, 2}, {11, 3}, {32, 1}, {62, 5}, {63, 6}, {64, 1}, {127, 7}, {1 << 62, 1}, {math.MaxInt, 63},
		{-1, -1}, {-2, -1}, {-64, -1}, {math.MinInt, -1},
	} {
		if many := impl.DishesMany(x.dishes); many != x.many {
			t.Error(x, many)
		}
	}
}

func TestDishesGreedy(t *testing.T) {
	for name, x := range menus {
		if list := impl.DishesGreedy(x.guests, x.sets); !slices.Equal(list, x.greedy) {
			t.Error(name, list)
		}
	}
	for name, x := range badMenus() {
		if list := impl.DishesGreedy(x.guests, x.sets); list != nil {
			t.Error(name, list)
		}
	}
}

func TestApartValid(t *testing.T) {
	guests, menu := dinner()
	for _, some := range [][]int{nil, {}, {0}, {1}, {2}, {3}, {4}, {0, 3}, {1, 2}, {1, 3}, {0, 4}, {0, 3, 4}, {1, 2, 4}, {1, 3, 4}} {
		if !impl.ApartValid(guests, menu, some) {
			t.Error(some)
		}
	}
	for _, some := range [][]int{{0, 1}, {0, 2}, {2, 3}, {0, 1, 4}, {1, 2, 3}, {0, 2, 4}, {3, 1}, {4, 3, 1}, {1, 4, 3}, {0, 0}, {4, 4}, {1, 1, 3}, {-1}, {-1, 0}, {5}, {4, 5}, {64}, {math.MinInt}, {math.MaxInt}, {0, 1, 2, 3, 4}, make([]int, 100)} {
		if impl.ApartValid(guests, menu, some) {
			t.Error(some)
		}
	}
	if !impl.ApartValid(6, []int{0, 0}, []int{0, 1, 2, 3, 4, 5}) || !impl.ApartValid(3, []int{6}, []int{0, 1}) || impl.ApartValid(3, []int{6}, []int{0, 1, 2}) {
		t.Error("who eats nothing")
	}
	if !impl.ApartValid(0, nil, nil) || !impl.ApartValid(0, []int{0}, nil) || impl.ApartValid(0, nil, []int{0}) {
		t.Error("nobody")
	}
	for name, x := range badMenus() {
		for _, some := range [][]int{nil, {0}, {1}, {0, 1}, {0, 3}} {
			if impl.ApartValid(x.guests, x.sets, some) {
				t.Error(name, some)
			}
		}
	}
}

func TestApartMost(t *testing.T) {
	for name, x := range menus {
		if apart := impl.ApartMost(x.guests, x.sets); apart != x.apart {
			t.Error(name, apart)
		}
	}
	for name, x := range badMenus() {
		if apart := impl.ApartMost(x.guests, x.sets); apart != -1 {
			t.Error(name, apart)
		}
	}
}

// quarrelling are guests with quarrels, with the tables at which each sits first, the least number of tables, and how many quarrel all at most.
var quarrelling = map[string]struct {
	guestList
	first         []int
	least, clique int
}{
	"nobody":                  {guestList{0, nil}, nil, 0, 0},
	"one":                     {guestList{1, []int{0}}, []int{0}, 1, 1},
	"two in peace":            {guestList{2, []int{0, 0}}, []int{0, 0}, 1, 1},
	"two":                     {guestList{2, []int{2, 1}}, []int{0, 1}, 2, 2},
	"the last two":            {guestList{6, []int{0, 0, 0, 0, 32, 16}}, []int{0, 0, 0, 0, 0, 1}, 2, 2},
	"the first and the last":  {guestList{6, []int{32, 0, 0, 0, 0, 1}}, []int{0, 0, 0, 0, 0, 1}, 2, 2},
	"example":                 {guestList{4, []int{2, 5, 2, 0}}, []int{0, 1, 0, 0}, 2, 2},
	"three":                   {guestList{3, []int{6, 5, 3}}, []int{0, 1, 2}, 3, 3},
	"all":                     {guestList{6, []int{62, 61, 59, 55, 47, 31}}, []int{0, 1, 2, 3, 4, 5}, 6, 6},
	"all in peace":            {guestList{6, make([]int, 6)}, make([]int, 6), 1, 1},
	"one with all":            {guestList{6, []int{8, 8, 8, 55, 8, 8}}, []int{0, 0, 0, 1, 0, 0}, 2, 2},
	"round five":              {guestList{5, []int{18, 5, 10, 20, 9}}, []int{0, 1, 0, 1, 2}, 3, 2},
	"round six":               {guestList{6, []int{34, 5, 10, 20, 40, 17}}, []int{0, 1, 0, 1, 0, 1}, 2, 2},
	"round five and one":      {guestList{6, []int{50, 37, 42, 52, 41, 31}}, []int{0, 1, 0, 1, 2, 3}, 4, 3},
	"first is not best":       {guestList{4, []int{4, 8, 9, 6}}, []int{0, 0, 1, 2}, 2, 2},
	"two sides, pair by pair": {guestList{6, []int{40, 20, 34, 17, 10, 5}}, []int{0, 0, 1, 1, 2, 2}, 2, 2},
	"two threes":              {guestList{6, []int{20, 40, 17, 34, 5, 10}}, []int{0, 0, 1, 1, 2, 2}, 3, 3},
}

func TestQuarrelsValid(t *testing.T) {
	for name, x := range quarrelling {
		if !impl.QuarrelsValid(x.guests, x.sets) {
			t.Error(name)
		}
	}
	for name, x := range badQuarrels() {
		if impl.QuarrelsValid(x.guests, x.sets) {
			t.Error(name)
		}
	}
}

func TestSeatsOk(t *testing.T) {
	guests, quarrels := ring()
	for _, seats := range [][]int{{0, 1, 0, 1, 2}, {0, 1, 2, 3, 4}, {4, 3, 2, 1, 0}, {4, 2, 4, 2, 0}, {1, 0, 2, 0, 2}} {
		if !impl.SeatsOk(guests, quarrels, seats) {
			t.Error(seats)
		}
	}
	for _, seats := range [][]int{nil, {0, 1, 0, 1}, {0, 1, 0, 1, 2, 0}, {0, 1, 0, 1, 0}, {0, 0, 1, 2, 3}, {0, 1, 2, 3, 3}, {0, 1, 2, 1, 1}, {0, 0, 0, 0, 0}, {0, 1, 0, 1, 5}, {5, 1, 0, 1, 2}, {-1, 1, 0, 1, 2}, {0, 1, 0, 1, -1}, {0, 1, 0, 1, math.MaxInt}, {math.MinInt, 1, 0, 1, 2}} {
		if impl.SeatsOk(guests, quarrels, seats) {
			t.Error(seats)
		}
	}
	if !impl.SeatsOk(0, nil, nil) || impl.SeatsOk(0, nil, []int{0}) || !impl.SeatsOk(1, []int{0}, []int{0}) || impl.SeatsOk(1, []int{0}, []int{1}) || impl.SeatsOk(1, []int{0}, nil) {
		t.Error("nobody, and one")
	}
	for name, x := range badQuarrels() {
		for _, seats := range [][]int{nil, make([]int, len(x.sets)), upTo(len(x.sets)), {0}, {0, 1}, {0, 1, 2}} {
			if impl.SeatsOk(x.guests, x.sets, seats) {
				t.Error(name, seats)
			}
		}
	}
}

func TestSeatsMany(t *testing.T) {
	for _, x := range []struct {
		seats []int
		many  int
	}{
		{nil, 0}, {[]int{}, 0}, {[]int{0}, 1}, {[]int{5}, 1}, {[]int{0, 0}, 1}, {[]int{0, 1, 0, 0}, 2}, {[]int{2, 1, 0}, 3}, {[]int{3, 1, 3, 1, 3}, 2},
		{[]int{-1, 1, 0, -1}, 3}, {[]int{-1, -2}, 2}, {[]int{math.MinInt, math.MaxInt, math.MinInt}, 2}, {upTo(100), 100}, {make([]int, 100), 1}, {append(upTo(50), upTo(50)...), 50},
	} {
		if many := impl.SeatsMany(x.seats); many != x.many {
			t.Error(x.seats, many)
		}
	}
}

func TestSeatsFirst(t *testing.T) {
	for name, x := range quarrelling {
		if seats := impl.SeatsFirst(x.guests, x.sets); !slices.Equal(seats, x.first) {
			t.Error(name, seats)
		}
	}
	for name, x := range badQuarrels() {
		if seats := impl.SeatsFirst(x.guests, x.sets); seats != nil {
			t.Error(name, seats)
		}
	}
}

func TestSeatsLeast(t *testing.T) {
	for name, x := range quarrelling {
		if least := impl.SeatsLeast(x.guests, x.sets); least != x.least {
			t.Error(name, least)
		}
	}
	for name, x := range badQuarrels() {
		if least := impl.SeatsLeast(x.guests, x.sets); least != -1 {
			t.Error(name, least)
		}
	}
}

func TestCliqueMost(t *testing.T) {
	for name, x := range quarrelling {
		if clique := impl.CliqueMost(x.guests, x.sets); clique != x.clique {
			t.Error(name, clique)
		}
	}
	for name, x := range badQuarrels() {
		if clique := impl.CliqueMost(x.guests, x.sets); clique != -1 {
			t.Error(name, clique)
		}
	}
}

func TestGuestsKeepTheirArguments(t *testing.T) {
	forSeeds(t, 300, func(t *testing.T, r *rand.Rand) {
		guests := between(r, 0, impl.MaxGuests)
		menu, quarrels, some := randomMenu(r, guests, impl.MaxMenu), randomQuarrels(r, guests), upTo(guests)
		seats := impl.SeatsFirst(guests, quarrels)
		wasMenu, wasQuarrels, wasSome, wasSeats := slices.Clone(menu), slices.Clone(quarrels), slices.Clone(some), slices.Clone(seats)
		impl.FedBy(guests, menu, 0)
		impl.FeedsAll(guests, menu, 1<<len(menu)-1)
		least := impl.DishesLeast(guests, menu)
		impl.ApartValid(guests, menu, some)
		impl.ApartMost(guests, menu)
		impl.SeatsOk(guests, quarrels, seats)
		impl.SeatsMany(seats)
		impl.SeatsLeast(guests, quarrels)
		impl.CliqueMost(guests, quarrels)
		greedy := impl.DishesGreedy(guests, menu)
		wasGreedy := slices.Clone(greedy)
		if !slices.Equal(seats, wasSeats) || !slices.Equal(some, wasSome) {
			t.Error("lists that are arguments", seats, some)
		}
		spoil(seats)
		spoil(greedy)
		if !slices.Equal(menu, wasMenu) || !slices.Equal(quarrels, wasQuarrels) {
			t.Error("arguments", menu, quarrels)
		}
		if !slices.Equal(impl.SeatsFirst(guests, quarrels), wasSeats) || !slices.Equal(impl.DishesGreedy(guests, menu), wasGreedy) || impl.DishesLeast(guests, menu) != least {
			t.Error("another time", menu, quarrels)
		}
	})
}
