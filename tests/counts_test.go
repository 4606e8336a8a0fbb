package tests

import (
	"math"
	"slices"
	"strconv"
	"testing"

	"loop.example/clubsandmembers/impl"
)

func countCalls() []familyCall {
	return []familyCall{
		{"CountTry", func(f impl.Family) outcome { return ofNumber(impl.CountTry(f)) }},
		{"CountTurns", func(f impl.Family) outcome { return ofNumber(impl.CountTurns(f)) }},
		{"CountCut", func(f impl.Family) outcome { return ofNumber(impl.CountCut(f)) }},
		{"CountSizes", func(f impl.Family) outcome { return ofList(impl.CountSizes(f)) }},
		{"CountPartly by 1", func(f impl.Family) outcome { return ofNumber(impl.CountPartly(f, 1)) }},
		{"CountPartly by all places", func(f impl.Family) outcome { return ofNumber(impl.CountPartly(f, impl.ClubsMax)) }},
		{"CountPivots", func(f impl.Family) outcome { return ofList(impl.CountPivots(f)) }},
		{"CountOdd", func(f impl.Family) outcome { return ofNumber(impl.CountOdd(f)) }},
	}
}

// countCase has what each function returns for one family. What is told partly goes up to the number of clubs, from which on it is the number of great sets.
type countCase struct {
	family impl.Family
	great  int
	sizes  []int
	partly []int
	pivots []int
	odd    int
}

// apartCounts have no club that is a part of another one.
func apartCounts() []countCase {
	return []countCase{
		{
			family: impl.Family{Members: 3, Clubs: []int{3, 5, 6}}, great: 4, sizes: []int{0, 0, 3, 1},
			partly: []int{6, 3, 4}, pivots: []int{2, 2, 2}, odd: -2,
		},
		{ // clubs without common members
			family: impl.Family{Members: 4, Clubs: []int{3, 12}}, great: 7, sizes: []int{0, 0, 2, 4, 1},
			partly: []int{8, 7}, pivots: []int{3, 3, 3, 3}, odd: 1,
		},
		{ // a row
			family: impl.Family{Members: 6, Clubs: []int{48, 24, 12, 6, 3}}, great: 43, sizes: []int{0, 0, 5, 16, 15, 6, 1},
			partly: []int{80, 24, 49, 42, 43}, pivots: []int{5, 11, 9, 9, 11, 5}, odd: 1,
		},
		{ // an own family: half of all sets are great
			family: impl.Family{Members: 4, Clubs: []int{3, 5, 9, 14}}, great: 8, sizes: []int{0, 0, 3, 4, 1},
			partly: []int{14, 5, 9, 8}, pivots: []int{6, 2, 2, 2},
		},
		{ // a star
			family: impl.Family{Members: 4, Clubs: []int{3, 5, 9}}, great: 7, sizes: []int{0, 0, 3, 3, 1},
			partly: []int{12, 6, 7}, pivots: []int{7, 1, 1, 1}, odd: -1,
		},
		{ // all but one of five
			family: impl.Family{Members: 5, Clubs: []int{15, 23, 27, 29, 30}}, great: 6, sizes: []int{0, 0, 0, 0, 5, 1},
			partly: []int{10, 0, 10, 5, 6}, pivots: []int{4, 4, 4, 4, 4}, odd: -4,
		},
		{ // members in no club
			family: impl.Family{Members: 6, Clubs: []int{21}}, great: 8, sizes: []int{0, 0, 0, 1, 3, 3, 1},
			partly: []int{8}, pivots: []int{8, 0, 8, 0, 8, 0},
		},
		{ // the member 0 alone is in no club
			family: impl.Family{Members: 6, Clubs: []int{62}}, great: 2, sizes: []int{0, 0, 0, 0, 0, 1, 1},
			partly: []int{2}, pivots: []int{0, 2, 2, 2, 2, 2},
		},
		{ // at the limit of clubs, with more great sets of an odd number of members
			family: impl.Family{Members: 6, Clubs: []int{7, 11, 19, 35, 13, 21, 37, 25}}, great: 24, sizes: []int{0, 0, 0, 8, 10, 5, 1},
			partly: []int{64, -30, 79, -18, 46, 17, 25, 24}, pivots: []int{24, 6, 6, 4, 4, 2}, odd: 2,
		},
	}
}

// partCounts have clubs that are a part of another one, or equal to it.
func partCounts() []countCase {
	return []countCase{
		{ // the member 0 is just in a club that has another one as a part
			family: impl.Family{Members: 4, Clubs: []int{10, 12, 15, 10, 14}}, great: 6, sizes: []int{0, 0, 2, 3, 1},
			partly: []int{15, -3, 11, 5, 6}, pivots: []int{0, 2, 2, 6},
		},
		{
			family: impl.Family{Members: 5, Clubs: []int{7, 7, 28}}, great: 7, sizes: []int{0, 0, 0, 2, 4, 1},
			partly: []int{12, 6, 7}, pivots: []int{3, 3, 7, 3, 3}, odd: -1,
		},
		{
			family: impl.Family{Members: 4, Clubs: []int{6, 6, 6, 9}}, great: 7, sizes: []int{0, 0, 2, 4, 1},
			partly: []int{16, 1, 8, 7}, pivots: []int{3, 3, 3, 3}, odd: 1,
		},
		{
			family: impl.Family{Members: 2, Clubs: []int{1, 1}}, great: 2, sizes: []int{0, 1, 1},
			partly: []int{4, 2}, pivots: []int{2, 0},
		},
		{
			family: impl.Family{Members: 6, Clubs: []int{24, 41, 38, 15, 28, 21, 51}}, great: 30, sizes: []int{0, 0, 1, 7, 15, 6, 1},
			partly: []int{56, 4, 52, 15, 36, 29, 30}, pivots: []int{8, 6, 8, 14, 14, 8}, odd: -4,
		},
		{
			family: impl.Family{Members: 6, Clubs: []int{42, 11, 48, 29, 39, 37, 23, 28}}, great: 31, sizes: []int{0, 0, 1, 8, 15, 6, 1},
			partly: []int{60, -4, 70, -4, 52, 24, 32, 31}, pivots: []int{7, 7, 7, 9, 13, 15}, odd: -3,
		},
		{
			family: impl.Family{Members: 6, Clubs: slices.Repeat([]int{1}, impl.ClubsMax)}, great: 32, sizes: []int{0, 1, 5, 10, 10, 5, 1},
			partly: []int{256, -640, 1152, -1088, 704, -192, 64, 32}, pivots: []int{32, 0, 0, 0, 0, 0},
		},
		{
			family: impl.Family{Members: 6, Clubs: slices.Repeat([]int{63}, impl.ClubsMax)}, great: 1, sizes: []int{0, 0, 0, 0, 0, 0, 1},
			partly: []int{8, -20, 36, -34, 22, -6, 2, 1}, pivots: []int{1, 1, 1, 1, 1, 1}, odd: -1,
		},
		{ // all sets but the empty one
			family: impl.Family{Members: 6, Clubs: []int{1, 2, 4, 8, 16, 32, 63, 63}}, great: 63, sizes: []int{0, 6, 15, 20, 15, 6, 1},
			partly: []int{194, -59, 137, 22, 84, 56, 64, 63}, pivots: []int{1, 1, 1, 1, 1, 1}, odd: 1,
		},
	}
}

// smallCounts have one member, or no clubs.
func smallCounts() []countCase {
	return []countCase{
		{family: impl.Family{Members: 1}, sizes: []int{0, 0}, pivots: []int{0}},
		{family: impl.Family{Members: 6, Clubs: []int{}}, sizes: make([]int, 7), pivots: make([]int, 6)},
		{
			family: impl.Family{Members: 1, Clubs: []int{1}}, great: 1, sizes: []int{0, 1},
			partly: []int{1}, pivots: []int{1}, odd: 1,
		},
		{
			family: impl.Family{Members: 1, Clubs: slices.Repeat([]int{1}, impl.ClubsMax)}, great: 1, sizes: []int{0, 1},
			partly: []int{8, -20, 36, -34, 22, -6, 2, 1}, pivots: []int{1}, odd: 1,
		},
		{
			family: impl.Family{Members: 3, Clubs: []int{7}}, great: 1, sizes: []int{0, 0, 0, 1},
			partly: []int{1}, pivots: []int{1, 1, 1}, odd: 1,
		},
	}
}

// emptyCounts have an empty club, so that all sets are great; the other clubs count in what is told partly.
func emptyCounts() []countCase {
	return []countCase{
		{family: impl.Family{Members: 1, Clubs: []int{0}}, great: 2, sizes: []int{1, 1}, partly: []int{2}, pivots: []int{0}},
		{family: impl.Family{Members: 1, Clubs: []int{0, 1}}, great: 2, sizes: []int{1, 1}, partly: []int{3, 2}, pivots: []int{0}},
		{family: impl.Family{Members: 1, Clubs: []int{1, 0}}, great: 2, sizes: []int{1, 1}, partly: []int{3, 2}, pivots: []int{0}},
		{family: impl.Family{Members: 2, Clubs: []int{0, 0}}, great: 4, sizes: []int{1, 2, 1}, partly: []int{8, 4}, pivots: []int{0, 0}},
		{family: impl.Family{Members: 2, Clubs: []int{3, 0}}, great: 4, sizes: []int{1, 2, 1}, partly: []int{5, 4}, pivots: []int{0, 0}},
		{
			family: impl.Family{Members: 3, Clubs: []int{3, 0, 5, 6}}, great: 8, sizes: []int{1, 3, 3, 1},
			partly: []int{14, 5, 9, 8}, pivots: []int{0, 0, 0},
		},
		{
			family: impl.Family{Members: 6, Clubs: []int{3, 5, 6, 0, 0}}, great: 64, sizes: []int{1, 6, 15, 20, 15, 6, 1},
			partly: []int{176, -8, 96, 56, 64}, pivots: make([]int, 6),
		},
		{
			family: impl.Family{Members: 1, Clubs: make([]int, impl.ClubsMax)}, great: 2, sizes: []int{1, 1},
			partly: []int{16, -40, 72, -68, 44, -12, 4, 2}, pivots: []int{0},
		},
		{
			family: impl.Family{Members: 6, Clubs: make([]int, impl.ClubsMax)}, great: 64, sizes: []int{1, 6, 15, 20, 15, 6, 1},
			partly: []int{512, -1280, 2304, -2176, 1408, -384, 128, 64}, pivots: make([]int, 6),
		},
		{
			family: impl.Family{Members: 6, Clubs: []int{1, 2, 4, 8, 16, 32, 0, 63}}, great: 64, sizes: []int{1, 6, 15, 20, 15, 6, 1},
			partly: []int{257, -182, 239, -16, 91, 57, 65, 64}, pivots: make([]int, 6),
		},
	}
}

func everyCountCase() []countCase {
	return slices.Concat(apartCounts(), partCounts(), smallCounts(), emptyCounts())
}

func TestCountNumbers(t *testing.T) {
	for _, c := range everyCountCase() {
		wantNumber(t, "CountTry", c.family, told(t, c.family, impl.CountTry), c.great)
		wantNumber(t, "CountTurns", c.family, told(t, c.family, impl.CountTurns), c.great)
		wantNumber(t, "CountCut", c.family, told(t, c.family, impl.CountCut), c.great)
		wantNumber(t, "CountOdd", c.family, told(t, c.family, impl.CountOdd), c.odd)
	}
}

func TestCountLists(t *testing.T) {
	for _, c := range everyCountCase() {
		wantList(t, "CountSizes", c.family, told(t, c.family, impl.CountSizes), c.sizes)
		wantList(t, "CountPivots", c.family, told(t, c.family, impl.CountPivots), c.pivots)
	}
}

// countPartly makes CountPartly a call of the family alone.
func countPartly(k int) func(impl.Family) (int, bool) {
	return func(f impl.Family) (int, bool) { return impl.CountPartly(f, k) }
}

func TestCountPartly(t *testing.T) {
	for _, c := range everyCountCase() {
		if len(c.partly) != len(c.family.Clubs) {
			t.Errorf("the case of %v is told partly %d times", c.family, len(c.partly))
		}
		for k := 1; k <= impl.ClubsMax; k++ {
			want := c.great
			if k <= len(c.partly) {
				want = c.partly[k-1]
			}
			wantNumber(t, "CountPartly by "+strconv.Itoa(k), c.family, told(t, c.family, countPartly(k)), want)
		}
	}
}

// wrongPlaces are told for no family, whether it has that many clubs or not.
func wrongPlaces() []int {
	return []int{0, -1, -2, -impl.ClubsMax, impl.ClubsMax + 1, impl.ClubsMax + 2, 64, 256, 257, math.MinInt, math.MinInt + 1, math.MaxInt}
}

func TestCountPartlyOfPlacesThatAreNone(t *testing.T) {
	for _, c := range everyCountCase() {
		for _, k := range wrongPlaces() {
			wantFailed(t, "CountPartly by "+strconv.Itoa(k), ofNumber(impl.CountPartly(c.family, k)))
		}
	}
}

func TestCountPartlyOfNoFamilies(t *testing.T) {
	for _, f := range noFamilies() {
		for _, k := range append(between(1, impl.ClubsMax), wrongPlaces()...) {
			given := impl.Family{Members: f.Members, Clubs: roomy(f.Clubs)}
			wantFailed(t, "CountPartly by "+strconv.Itoa(k), ofNumber(impl.CountPartly(given, k)))
			wantUntouched(t, "CountPartly", given.Clubs, f.Clubs)
		}
	}
}

// The other calls are with the calls of all chapters.
func TestCountPartlyLeavesArgumentsAlone(t *testing.T) {
	for _, f := range memoryFamilies() {
		for _, k := range append(between(1, impl.ClubsMax), wrongPlaces()...) {
			given := impl.Family{Members: f.Members, Clubs: roomy(f.Clubs)}
			first, _ := impl.CountPartly(given, k)
			wantUntouched(t, "CountPartly", given.Clubs, f.Clubs)
			again, _ := impl.CountPartly(given, k)
			wantNumber(t, "CountPartly, asked again,", f, again, first)
		}
	}
}

// withEmptyClub puts an empty club ahead of the one at a place.
func withEmptyClub(f impl.Family, place int) impl.Family {
	return impl.Family{Members: f.Members, Clubs: slices.Insert(slices.Clone(f.Clubs), place, 0)}
}

// chosen is the number of sets of some of all members.
func chosen(all, some int) int {
	if some == 0 {
		return 1
	}
	return chosen(all, some-1) * (all - some + 1) / some
}

func wantAllGreat(t *testing.T, f impl.Family) {
	t.Helper()
	all := power(2, f.Members)
	wantNumber(t, "CountTry with an empty club", f, told(t, f, impl.CountTry), all)
	wantNumber(t, "CountTurns with an empty club", f, told(t, f, impl.CountTurns), all)
	wantNumber(t, "CountCut with an empty club", f, told(t, f, impl.CountCut), all)
	wantNumber(t, "CountOdd with an empty club", f, told(t, f, impl.CountOdd), 0)
	wantList(t, "CountPivots with an empty club", f, told(t, f, impl.CountPivots), make([]int, f.Members))
	sizes := told(t, f, impl.CountSizes)
	for some, many := range sizes {
		wantNumber(t, "CountSizes with an empty club, of "+strconv.Itoa(some)+",", f, many, chosen(f.Members, some))
	}
	wantNumber(t, "the length of CountSizes with an empty club", f, len(sizes), f.Members+1)
}

// It does not matter at which place the empty club is, nor what else there is.
func TestCountsWithAnEmptyClub(t *testing.T) {
	for members := 1; members <= impl.MembersMax; members++ {
		for clubs := range impl.ClubsMax {
			for turn := range 4 {
				f := mixedFamily(members, clubs, turn)
				for place := range clubs + 1 {
					wantAllGreat(t, withEmptyClub(f, place))
				}
			}
		}
	}
}

// The empty club alone has all sets, and each one that comes to it is added by what it has, and taken off again with it.
func TestCountPartlyWithAnEmptyClub(t *testing.T) {
	for members := 1; members <= impl.MembersMax; members++ {
		for clubs := 1; clubs < impl.ClubsMax; clubs++ {
			f := mixedFamily(members, clubs, 0)
			g := withEmptyClub(f, clubs/2)
			for k := 2; k <= impl.ClubsMax; k++ {
				want := power(2, members) + told(t, f, countPartly(k)) - told(t, f, countPartly(k-1))
				wantNumber(t, "CountPartly by "+strconv.Itoa(k), g, told(t, g, countPartly(k)), want)
			}
			wantNumber(t, "CountPartly by 1", g, told(t, g, countPartly(1)), power(2, members)+told(t, f, countPartly(1)))
		}
	}
}
