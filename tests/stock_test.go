package tests

import (
	"math"
	"math/rand/v2"
	"slices"
	"testing"

	"loop.example/restaurantkitchen/impl"
)

func TestLotsValid(t *testing.T) {
	good := map[string][]impl.Lot{
		"no lots":       nil,
		"empty":         {},
		"an empty lot":  {{}},
		"different":     shelf(),
		"same day":      sameDay(),
		"full":          fullShelf(),
		"greatest Last": {{Many: 0, Last: impl.MaxDays - 1}},
		"greatest Many": {{Many: impl.MaxLot, Last: 0}},
	}
	for name, lots := range good {
		if !impl.LotsValid(lots) {
			t.Error(name)
		}
	}
	for name, lots := range badLots() {
		if impl.LotsValid(lots) {
			t.Error(name)
		}
	}
}

func TestWantsValid(t *testing.T) {
	for _, wants := range [][]int{nil, {}, {0}, {impl.MaxWant}, {0, 50, 1}, make([]int, impl.MaxDays), slices.Repeat([]int{impl.MaxWant}, impl.MaxDays)} {
		if !impl.WantsValid(wants) {
			t.Error(wants)
		}
	}
	for name, wants := range badWants() {
		if impl.WantsValid(wants) {
			t.Error(name)
		}
	}
}

func TestLotsAt(t *testing.T) {
	for day, want := range map[int]int{math.MinInt: 12, -1: 12, 0: 12, 1: 9, 2: 4, 3: 0, 6: 0, math.MaxInt: 0} {
		if got := impl.LotsAt(shelf(), day); got != want {
			t.Error(day, got)
		}
	}
	for day, want := range map[int]int{0: 15, 1: 15, 2: 14, 4: 14, 5: 0} {
		if got := impl.LotsAt(sameDay(), day); got != want {
			t.Error("same day", day, got)
		}
	}
	if impl.LotsAt(fullShelf(), 5) != 45 || impl.LotsAt(fullShelf(), 6) != 0 {
		t.Error("full")
	}
	for _, day := range anyDays {
		if impl.LotsAt(nil, day) != 0 {
			t.Error("no lots", day)
		}
		for name, lots := range badLots() {
			if impl.LotsAt(lots, day) != -1 {
				t.Error(name, day)
			}
		}
	}
}

func TestTakeOk(t *testing.T) {
	for _, x := range []struct {
		day  int
		take []int
		ok   bool
	}{
		{0, []int{0, 0, 0}, true},
		{0, []int{4, 3, 5}, true},
		{0, []int{0, 3, 2}, true},
		{-1, []int{4, 3, 5}, true},
		{math.MinInt, []int{4, 3, 5}, true},
		{1, []int{4, 0, 5}, true},
		{1, []int{4, 1, 5}, false},
		{2, []int{4, 0, 0}, true},
		{2, []int{4, 0, 1}, false},
		{3, []int{1, 0, 0}, false},
		{3, []int{0, 0, 0}, true},
		{math.MaxInt, []int{0, 0, 0}, true},
		{0, []int{5, 3, 5}, false},
		{0, []int{4, 4, 5}, false},
		{0, []int{4, 3, 6}, false},
		{0, []int{-1, 3, 5}, false},
		{0, []int{4, 3, -1}, false},
		{1, []int{0, -1, 0}, false},
		{0, []int{math.MaxInt, 0, 0}, false},
		{0, []int{math.MinInt, 0, 0}, false},
		{0, nil, false},
		{0, []int{0, 0}, false},
		{0, []int{0, 0, 0, 0}, false},
	} {
		if impl.TakeOk(shelf(), x.day, x.take) != x.ok {
			t.Error(x)
		}
	}
	if !impl.TakeOk(nil, 0, nil) || impl.TakeOk(nil, 0, []int{0}) {
		t.Error("no lots")
	}
	for name, lots := range badLots() {
		if impl.TakeOk(lots, 0, make([]int, len(lots))) {
			t.Error(name)
		}
	}
}

func TestTakeDo(t *testing.T) {
	if left, ok := impl.TakeDo(shelf(), 0, []int{0, 3, 2}); !ok || !slices.Equal(left, []impl.Lot{{Many: 4, Last: 2}, {Many: 0, Last: 0}, {Many: 3, Last: 1}}) {
		t.Error("some", left, ok)
	}
	if left, ok := impl.TakeDo(shelf(), 99, []int{0, 0, 0}); !ok || !slices.Equal(left, shelf()) {
		t.Error("nothing of what is spoiled", left, ok)
	}
	if left, ok := impl.TakeDo(shelf(), -99, []int{4, 3, 5}); !ok || unitsOf(left) != 0 || len(left) != 3 {
		t.Error("everything", left, ok)
	}
	if left, ok := impl.TakeDo(nil, 0, nil); !ok || len(left) != 0 {
		t.Error("no lots", left, ok)
	}
	refused := func(lots []impl.Lot, day int, take []int) bool {
		left, ok := impl.TakeDo(lots, day, take)
		return !ok && left == nil
	}
	for _, take := range [][]int{nil, {0, 0}, {0, 0, 0, 0}, {-1, 0, 0}, {5, 0, 0}, {0, 1, 0}, {0, 0, 6}} {
		if !refused(shelf(), 1, take) {
			t.Error(take)
		}
	}
	for name, lots := range badLots() {
		if !refused(lots, 0, make([]int, len(lots))) {
			t.Error(name)
		}
	}
}

func TestTakeFirst(t *testing.T) {
	for name, x := range map[string]struct {
		lots      []impl.Lot
		day, want int
		take      []int
	}{
		"example":              {shelf(), 0, 5, []int{0, 3, 2}},
		"nothing wanted":       {shelf(), 0, 0, []int{0, 0, 0}},
		"just a lot":           {shelf(), 0, 3, []int{0, 3, 0}},
		"two lots":             {shelf(), 0, 8, []int{0, 3, 5}},
		"all":                  {shelf(), 0, 12, []int{4, 3, 5}},
		"too little":           {shelf(), 0, 50, []int{4, 3, 5}},
		"one is spoiled":       {shelf(), 1, 6, []int{1, 0, 5}},
		"two are spoiled":      {shelf(), 2, 9, []int{4, 0, 0}},
		"all are spoiled":      {shelf(), 3, 9, []int{0, 0, 0}},
		"far behind all days":  {shelf(), math.MaxInt, 9, []int{0, 0, 0}},
		"far before all days":  {shelf(), math.MinInt, 4, []int{0, 3, 1}},
		"same day":             {sameDay(), 2, 4, []int{3, 1, 0, 0}},
		"same day, the last":   {sameDay(), 4, 7, []int{3, 2, 0, 2}},
		"earlier one between":  {sameDay(), 1, 4, []int{3, 0, 1, 0}},
		"same day, too little": {sameDay(), 4, 50, []int{3, 2, 0, 9}},
		"empty lots":           {[]impl.Lot{{Last: 1}, {Many: 2, Last: 1}, {Last: 2}, {Many: 2, Last: 2}}, 0, 3, []int{0, 2, 0, 1}},
		"no lots":              {nil, 0, 5, nil},
		"full":                 {fullShelf(), 5, 19, []int{9, 9, 1, 0, 0}},
	} {
		if take := impl.TakeFirst(x.lots, x.day, x.want); !slices.Equal(take, x.take) {
			t.Error(name, take)
		}
	}
	for _, want := range []int{-1, impl.MaxWant + 1, math.MaxInt, math.MinInt} {
		if impl.TakeFirst(shelf(), 0, want) != nil {
			t.Error(want)
		}
	}
	for name, lots := range badLots() {
		if impl.TakeFirst(lots, 0, 1) != nil {
			t.Error(name)
		}
	}
}

func TestUseOk(t *testing.T) {
	wants := []int{2, 2, 9}
	for name, x := range map[string]struct {
		use [][]int
		ok  bool
	}{
		"nothing":                  {[][]int{{0, 0, 0}, {0, 0, 0}, {0, 0, 0}}, true},
		"the first":                {[][]int{{0, 2, 0}, {0, 0, 2}, {4, 0, 0}}, true},
		"the last first":           {[][]int{{2, 0, 0}, {1, 0, 1}, {1, 0, 0}}, true},
		"one too much on a day":    {[][]int{{0, 2, 1}, {0, 0, 2}, {4, 0, 0}}, false},
		"too much of a lot":        {[][]int{{2, 0, 0}, {0, 0, 2}, {3, 0, 0}}, false},
		"too much of a lot at all": {[][]int{{0, 0, 0}, {0, 0, 0}, {5, 0, 0}}, false},
		"spoiled":                  {[][]int{{0, 2, 0}, {0, 1, 0}, {0, 0, 0}}, false},
		"less than nothing":        {[][]int{{-1, 2, 0}, {0, 0, 0}, {0, 0, 0}}, false},
		"put back":                 {[][]int{{2, 0, 0}, {-1, 0, 0}, {3, 0, 0}}, false},
		"one day too few":          {[][]int{{0, 0, 0}, {0, 0, 0}}, false},
		"one day too many":         {[][]int{{0, 0, 0}, {0, 0, 0}, {0, 0, 0}, {0, 0, 0}}, false},
		"no days":                  {nil, false},
		"one lot too few":          {[][]int{{0, 0, 0}, {0, 0}, {0, 0, 0}}, false},
		"one lot too many":         {[][]int{{0, 0, 0}, {0, 0, 0}, {0, 0, 0, 0}}, false},
		"a day without lots":       {[][]int{nil, {0, 0, 0}, {0, 0, 0}}, false},
	} {
		if impl.UseOk(shelf(), wants, x.use) != x.ok {
			t.Error(name)
		}
	}
	if !impl.UseOk(nil, nil, nil) || !impl.UseOk(shelf(), nil, nil) || !impl.UseOk(nil, []int{1, 2}, make([][]int, 2)) {
		t.Error("no days or no lots")
	}
	if impl.UseOk(shelf(), nil, [][]int{{0, 0, 0}}) || impl.UseOk(nil, []int{1}, [][]int{{0}}) {
		t.Error("more than no days or no lots")
	}
	for name, lots := range badLots() {
		if impl.UseOk(lots, []int{1}, [][]int{make([]int, len(lots))}) || impl.UseOk(lots, nil, nil) {
			t.Error(name)
		}
	}
	for name, wants := range badWants() {
		if impl.UseOk(nil, wants, make([][]int, len(wants))) {
			t.Error(name)
		}
	}
}

func TestUseSum(t *testing.T) {
	for _, x := range []struct {
		use [][]int
		sum int
	}{
		{nil, 0},
		{[][]int{}, 0},
		{[][]int{nil, {}}, 0},
		{[][]int{{7}}, 7},
		{[][]int{{1, 2}, {3}, nil, {4, 5, 6}}, 21},
		{[][]int{{-5, 2}, {-3}}, -6},
		{[][]int{{1000000, 1}, make([]int, 50)}, 1000001},
		{slices.Repeat([][]int{slices.Repeat([]int{1}, 20)}, 20), 400},
	} {
		if got := impl.UseSum(x.use); got != x.sum {
			t.Error(x.use, got)
		}
	}
}

func TestUseFirst(t *testing.T) {
	for name, x := range map[string]struct {
		lots  []impl.Lot
		wants []int
		use   [][]int
	}{
		"example":        {shelf(), []int{2, 2, 9}, [][]int{{0, 2, 0}, {0, 0, 2}, {4, 0, 0}}},
		"days without":   {shelf(), []int{0, 0, 3, 3}, [][]int{{0, 0, 0}, {0, 0, 0}, {3, 0, 0}, {0, 0, 0}}},
		"all at once":    {shelf(), []int{20, 1}, [][]int{{4, 3, 5}, {0, 0, 0}}},
		"same day":       {sameDay(), []int{2, 3, 0, 0, 50, 1}, [][]int{{1, 0, 1, 0}, {2, 1, 0, 0}, {0, 0, 0, 0}, {0, 0, 0, 0}, {0, 1, 0, 9}, {0, 0, 0, 0}}},
		"too little":     {sameDay(), []int{16, 1}, [][]int{{3, 2, 1, 9}, {0, 0, 0, 0}}},
		"no lots":        {nil, []int{1, 2}, [][]int{nil, nil}},
		"no days":        {shelf(), nil, nil},
		"nothing at all": {nil, nil, nil},
	} {
		if use := impl.UseFirst(x.lots, x.wants); !sameUse(use, x.use) {
			t.Error(name, use)
		}
	}
	for name, lots := range badLots() {
		if impl.UseFirst(lots, []int{1}) != nil {
			t.Error(name)
		}
	}
	for name, wants := range badWants() {
		if impl.UseFirst(shelf(), wants) != nil {
			t.Error(name)
		}
	}
}

func TestUseMostAndWhatIsLess(t *testing.T) {
	for name, x := range map[string]struct {
		lots              []impl.Lot
		wants             []int
		most, spoil, lack int
	}{
		"example":        {shelf(), []int{2, 2, 9}, 8, 4, 5},
		"same day":       {sameDay(), []int{2, 3, 0, 0, 50, 1}, 15, 0, 41},
		"nothing lacks":  {shelf(), []int{3, 5, 4}, 12, 0, 0},
		"too late":       {shelf(), []int{0, 0, 0, 50, 50, 50}, 0, 12, 150},
		"no lots":        {nil, []int{1, 2}, 0, 0, 3},
		"no days":        {shelf(), nil, 0, 12, 0},
		"nothing at all": {nil, nil, 0, 0, 0},
		"greatest":       {fullShelf(), slices.Repeat([]int{impl.MaxWant}, impl.MaxDays), 45, 0, 255},
		"on the last":    {fullShelf(), []int{0, 0, 0, 0, 0, 44}, 44, 1, 0},
	} {
		most, spoil, lack := impl.UseMost(x.lots, x.wants), impl.SpoilLeast(x.lots, x.wants), impl.LackLeast(x.lots, x.wants)
		if most != x.most || spoil != x.spoil || lack != x.lack {
			t.Error(name, most, spoil, lack)
		}
	}
	for name, lots := range badLots() {
		if impl.UseMost(lots, nil) != -1 || impl.SpoilLeast(lots, nil) != -1 || impl.LackLeast(lots, []int{1}) != -1 {
			t.Error(name)
		}
	}
	for name, wants := range badWants() {
		if impl.UseMost(shelf(), wants) != -1 || impl.SpoilLeast(nil, wants) != -1 || impl.LackLeast(shelf(), wants) != -1 {
			t.Error(name)
		}
	}
}

func TestUseBound(t *testing.T) {
	for day, want := range []int{12, 11, 8, 13, 13, 13, 13} {
		if got := impl.UseBound(shelf(), []int{2, 2, 9}, day); got != want {
			t.Error(day, got)
		}
	}
	for day, want := range []int{15, 16, 17, 20, 24, 15, 21} {
		if got := impl.UseBound(sameDay(), []int{1, 2, 3, 4, 5, 6}, day); got != want {
			t.Error("all days", day, got)
		}
	}
	if impl.UseBound(nil, nil, 0) != 0 || impl.UseBound(nil, nil, impl.MaxDays) != 0 || impl.UseBound(shelf(), nil, 2) != 4 {
		t.Error("no lots or no days")
	}
	for _, day := range []int{-1, impl.MaxDays + 1, math.MaxInt, math.MinInt} {
		if impl.UseBound(shelf(), []int{2, 2, 9}, day) != -1 {
			t.Error(day)
		}
	}
	for name, lots := range badLots() {
		if impl.UseBound(lots, []int{1}, 1) != -1 {
			t.Error(name)
		}
	}
	for name, wants := range badWants() {
		if impl.UseBound(shelf(), wants, 0) != -1 {
			t.Error(name)
		}
	}
}

func TestStockKeepsItsArguments(t *testing.T) {
	forSeeds(t, 300, func(t *testing.T, r *rand.Rand) {
		lots, wants := randomLots(r, impl.MaxLot), randomWants(r)
		wasLots, wasWants := slices.Clone(lots), slices.Clone(wants)
		use := impl.UseFirst(lots, wants)
		wasUse := copyUse(use)
		take := impl.TakeFirst(lots, 0, 7)
		wasTake := slices.Clone(take)
		left, _ := impl.TakeDo(lots, 0, take)
		wasLeft := slices.Clone(left)
		impl.UseOk(lots, wants, use)
		impl.UseSum(use)
		impl.SpoilLeast(lots, wants)
		impl.LackLeast(lots, wants)
		impl.UseBound(lots, wants, 3)
		if !sameUse(use, wasUse) || !slices.Equal(take, wasTake) {
			t.Error("tables", use, wasUse, take, wasTake)
		}
		for day := range use {
			spoil(use[day])
			if !sameUse(use[day+1:], wasUse[day+1:]) {
				t.Error("days share memory", use, wasUse)
			}
		}
		spoil(take)
		if !slices.Equal(left, wasLeft) {
			t.Error("left", left, wasLeft)
		}
		spoilLots(left)
		if !slices.Equal(lots, wasLots) || !slices.Equal(wants, wasWants) {
			t.Error("arguments", lots, wasLots, wants, wasWants)
		}
	})
}
