package tests

import (
	"math"
	"slices"
	"testing"

	"loop.example/clubsandmembers/impl"
)

func rankCalls() []familyCall {
	return []familyCall{
		{"RankEven", func(f impl.Family) outcome { return ofNumber(impl.RankEven(f)) }},
		{"RankWhole", func(f impl.Family) outcome { return ofNumber(impl.RankWhole(f)) }},
		{"RankSum of no places", func(f impl.Family) outcome { return ofNumber(impl.RankSum(f, 0)) }},
		{"RankSum of all places", func(f impl.Family) outcome { return ofNumber(impl.RankSum(f, 1<<len(f.Clubs)-1)) }},
		{"RankSums", func(f impl.Family) outcome { return ofNumber(impl.RankSums(f)) }},
		{"RankMeets", func(f impl.Family) outcome { return ofRows(impl.RankMeets(f)) }},
		{"RankSpread", func(f impl.Family) outcome { return ofList(impl.RankSpread(f)) }},
		{"RankOdd", func(f impl.Family) outcome { return outcome{ok: impl.RankOdd(f)} }},
		{"RankSame", func(f impl.Family) outcome { return outcome{ok: impl.RankSame(f)} }},
	}
}

func ofRows(rows [][]int, ok bool) outcome {
	return outcome{lists: rows, ok: ok}
}

// rankCase has what each function returns for one family, all being RankSum of all places.
type rankCase struct {
	family           impl.Family
	even, whole, all int
	meets            [][]int
	spread           []int
	odd, same        bool
}

// apartCases have ranks that differ.
func apartCases() []rankCase {
	return []rankCase{
		{
			family: impl.Family{Members: 3, Clubs: []int{3, 5, 6}}, even: 2, whole: 3,
			meets: [][]int{{2, 1, 1}, {1, 2, 1}, {1, 1, 2}}, spread: []int{0, 7}, same: true,
		},
		{ // all but one of five
			family: impl.Family{Members: 5, Clubs: []int{15, 23, 27, 29, 30}}, even: 4, whole: 5,
			meets:  [][]int{{4, 3, 3, 3, 3}, {3, 4, 3, 3, 3}, {3, 3, 4, 3, 3}, {3, 3, 3, 4, 3}, {3, 3, 3, 3, 4}},
			spread: []int{0, 31}, same: true,
		},
		{ // two times three pairs
			family: impl.Family{Members: 6, Clubs: []int{3, 5, 6, 24, 40, 48}}, even: 4, whole: 6,
			meets: [][]int{
				{2, 1, 1, 0, 0, 0}, {1, 2, 1, 0, 0, 0}, {1, 1, 2, 0, 0, 0},
				{0, 0, 0, 2, 1, 1}, {0, 0, 0, 1, 2, 1}, {0, 0, 0, 1, 1, 2},
			},
			spread: []int{0, 7, 56, 63},
		},
		{ // all pairs of four, in a family with one member more
			family: impl.Family{Members: 5, Clubs: []int{3, 5, 9, 6, 10, 12}}, even: 3, whole: 4, all: 15,
			meets: [][]int{
				{2, 1, 1, 1, 1, 0}, {1, 2, 1, 1, 0, 1}, {1, 1, 2, 0, 1, 1},
				{1, 1, 0, 2, 1, 1}, {1, 0, 1, 1, 2, 1}, {0, 1, 1, 1, 1, 2},
			},
			spread: []int{0, 15, 16, 31},
		},
		{ // a round of five
			family: impl.Family{Members: 5, Clubs: []int{3, 6, 12, 24, 17}}, even: 4, whole: 5,
			meets:  [][]int{{2, 1, 0, 0, 1}, {1, 2, 1, 0, 0}, {0, 1, 2, 1, 0}, {0, 0, 1, 2, 1}, {1, 0, 0, 1, 2}},
			spread: []int{0, 31},
		},
	}
}

// togetherCases have ranks that are the same.
func togetherCases() []rankCase {
	return []rankCase{
		{ // all but one of four
			family: impl.Family{Members: 4, Clubs: []int{7, 11, 13, 14}}, even: 4, whole: 4, all: 15,
			meets: [][]int{{3, 2, 2, 2}, {2, 3, 2, 2}, {2, 2, 3, 2}, {2, 2, 2, 3}}, spread: []int{0}, odd: true, same: true,
		},
		{ // a round of four
			family: impl.Family{Members: 4, Clubs: []int{3, 6, 12, 9}}, even: 3, whole: 3,
			meets: [][]int{{2, 1, 0, 1}, {1, 2, 1, 0}, {0, 1, 2, 1}, {1, 0, 1, 2}}, spread: []int{0, 15},
		},
		{ // a star
			family: impl.Family{Members: 4, Clubs: []int{3, 5, 9}}, even: 3, whole: 3, all: 15,
			meets: [][]int{{2, 1, 1}, {1, 2, 1}, {1, 1, 2}}, spread: []int{0, 15}, same: true,
		},
		{ // one part of the other
			family: impl.Family{Members: 3, Clubs: []int{1, 3, 7}}, even: 3, whole: 3, all: 5,
			meets: [][]int{{1, 1, 1}, {1, 2, 2}, {1, 2, 3}}, spread: []int{0},
		},
		{ // two clubs, one a part of the other, have one number of common members
			family: impl.Family{Members: 2, Clubs: []int{3, 2}}, even: 2, whole: 2, all: 1,
			meets: [][]int{{2, 1}, {1, 1}}, spread: []int{0}, same: true,
		},
		{ // odd ones that meet evenly, with one in two members and one in none
			family: impl.Family{Members: 6, Clubs: []int{7, 11, 16}}, even: 3, whole: 3, all: 28,
			meets: [][]int{{3, 2, 0}, {2, 3, 0}, {0, 0, 1}}, spread: []int{0, 3, 13, 14, 32, 35, 45, 46}, odd: true,
		},
		{ // each two have one common member or two
			family: impl.Family{Members: 4, Clubs: []int{3, 7, 14}}, even: 3, whole: 3, all: 10,
			meets: [][]int{{2, 2, 1}, {2, 3, 2}, {1, 2, 3}}, spread: []int{0, 11},
		},
		{ // at the limit of members
			family: impl.Family{Members: 6, Clubs: []int{1, 2, 4, 8, 16, 32}}, even: 6, whole: 6, all: 63,
			meets: [][]int{
				{1, 0, 0, 0, 0, 0}, {0, 1, 0, 0, 0, 0}, {0, 0, 1, 0, 0, 0},
				{0, 0, 0, 1, 0, 0}, {0, 0, 0, 0, 1, 0}, {0, 0, 0, 0, 0, 1},
			},
			spread: []int{0}, odd: true,
		},
		{ // more clubs than members
			family: impl.Family{Members: 1, Clubs: []int{1, 1, 1, 1, 1, 1, 1, 1}}, even: 1, whole: 1,
			meets: slices.Repeat([][]int{{1, 1, 1, 1, 1, 1, 1, 1}}, impl.ClubsMax), spread: []int{0},
		},
	}
}

// fewCases have less than two clubs, empty ones or equal ones.
func fewCases() []rankCase {
	return []rankCase{
		{ // no clubs: what is asked of each of them holds, but there are no two that are the same
			family: impl.Family{Members: 2}, spread: []int{0, 1, 2, 3}, odd: true,
		},
		{
			family: impl.Family{Members: impl.MembersMax, Clubs: []int{}}, spread: between(0, 63), odd: true,
		},
		{
			family: impl.Family{Members: 1, Clubs: []int{1}}, even: 1, whole: 1, all: 1, meets: [][]int{{1}}, spread: []int{0}, odd: true,
		},
		{
			family: impl.Family{Members: 2, Clubs: []int{3}}, even: 1, whole: 1, all: 3, meets: [][]int{{2}}, spread: []int{0, 3},
		},
		{ // empty clubs
			family: impl.Family{Members: 1, Clubs: []int{0}}, meets: [][]int{{0}}, spread: []int{0, 1},
		},
		{
			family: impl.Family{Members: impl.MembersMax, Clubs: make([]int, impl.ClubsMax)},
			meets:  slices.Repeat([][]int{make([]int, impl.ClubsMax)}, impl.ClubsMax), spread: between(0, 63),
		},
		{
			family: impl.Family{Members: 2, Clubs: []int{0, 1}}, even: 1, whole: 1, all: 1, meets: [][]int{{0, 0}, {0, 1}}, spread: []int{0, 2},
		},
		{
			family: impl.Family{Members: 3, Clubs: []int{3, 0, 5, 6}}, even: 2, whole: 3,
			meets: [][]int{{2, 0, 1, 1}, {0, 0, 0, 0}, {1, 0, 2, 1}, {1, 0, 1, 2}}, spread: []int{0, 7},
		},
		{ // clubs without common members
			family: impl.Family{Members: 2, Clubs: []int{1, 2}}, even: 2, whole: 2, all: 3, meets: [][]int{{1, 0}, {0, 1}}, spread: []int{0}, odd: true,
		},
		{ // equal clubs
			family: impl.Family{Members: 2, Clubs: []int{3, 3}}, even: 1, whole: 1, meets: [][]int{{2, 2}, {2, 2}}, spread: []int{0, 3},
		},
		{
			family: impl.Family{Members: 3, Clubs: []int{7, 7, 7}}, even: 1, whole: 1, all: 7,
			meets: [][]int{{3, 3, 3}, {3, 3, 3}, {3, 3, 3}}, spread: []int{0, 3, 5, 6},
		},
		{ // the same number throughout, but two of them are equal
			family: impl.Family{Members: 4, Clubs: []int{3, 5, 3, 9}}, even: 3, whole: 3, all: 12,
			meets: [][]int{{2, 1, 2, 1}, {1, 2, 1, 1}, {2, 1, 2, 1}, {1, 1, 1, 2}}, spread: []int{0, 15},
		},
		{ // three clubs of one number of common members each, two of them equal ones
			family: impl.Family{Members: 3, Clubs: []int{1, 1, 3}}, even: 2, whole: 2, all: 3,
			meets: [][]int{{1, 1, 1}, {1, 1, 1}, {1, 1, 2}}, spread: []int{0, 4},
		},
		{ // at both limits
			family: impl.Family{Members: 6, Clubs: []int{1, 2, 4, 8, 16, 32, 0, 63}}, even: 6, whole: 6,
			meets: [][]int{
				{1, 0, 0, 0, 0, 0, 0, 1}, {0, 1, 0, 0, 0, 0, 0, 1}, {0, 0, 1, 0, 0, 0, 0, 1}, {0, 0, 0, 1, 0, 0, 0, 1},
				{0, 0, 0, 0, 1, 0, 0, 1}, {0, 0, 0, 0, 0, 1, 0, 1}, {0, 0, 0, 0, 0, 0, 0, 0}, {1, 1, 1, 1, 1, 1, 0, 6},
			},
			spread: []int{0},
		},
	}
}

func everyRankCase() []rankCase {
	return slices.Concat(apartCases(), togetherCases(), fewCases())
}

func TestRankNumbers(t *testing.T) {
	for _, c := range everyRankCase() {
		f := c.family
		wantNumber(t, "RankEven", f, told(t, f, impl.RankEven), c.even)
		wantNumber(t, "RankWhole", f, told(t, f, impl.RankWhole), c.whole)
		wantNumber(t, "RankSums", f, told(t, f, impl.RankSums), power(2, c.even))
		wantNumber(t, "RankSum of all places", f, told(t, f, rankSum(1<<len(f.Clubs)-1)), c.all)
	}
}

func TestRankLists(t *testing.T) {
	for _, c := range everyRankCase() {
		wantRows(t, "RankMeets", c.family, told(t, c.family, impl.RankMeets), c.meets)
		wantList(t, "RankSpread", c.family, told(t, c.family, impl.RankSpread), c.spread)
	}
}

func TestRankAnswers(t *testing.T) {
	for _, c := range everyRankCase() {
		wantAnswer(t, "RankOdd", c.family, impl.RankOdd(c.family), c.odd)
		wantAnswer(t, "RankSame", c.family, impl.RankSame(c.family), c.same)
	}
}

func wantRows(t *testing.T, what string, f impl.Family, got, want [][]int) {
	t.Helper()
	if !slices.EqualFunc(got, want, slices.Equal) {
		t.Errorf("%s of %v is %v, want %v", what, f, got, want)
	}
}

// rankSum makes RankSum a call of the family alone.
func rankSum(places int) func(impl.Family) (int, bool) {
	return func(f impl.Family) (int, bool) { return impl.RankSum(f, places) }
}

func TestRankSumOfEachSetOfPlaces(t *testing.T) {
	f := impl.Family{Members: 4, Clubs: []int{3, 6, 13}}
	for places, want := range []int{0, 3, 6, 5, 13, 14, 11, 8} {
		wantNumber(t, "RankSum", f, told(t, f, rankSum(places)), want)
	}
	// An odd number of times is enough, not just once.
	g := impl.Family{Members: 2, Clubs: []int{1, 1, 3, 2}}
	for places, want := range []int{0, 1, 1, 0, 3, 2, 2, 3, 2, 3, 3, 2, 1, 0, 0, 1} {
		wantNumber(t, "RankSum", g, told(t, g, rankSum(places)), want)
	}
}

// There is always the set of no places, in a family without clubs, too, and no member is in an odd number of no clubs.
func TestRankSumOfNoPlaces(t *testing.T) {
	for _, f := range rankSamples() {
		wantNumber(t, "RankSum of no places", f, told(t, f, rankSum(0)), 0)
	}
	for members := 1; members <= impl.MembersMax; members++ {
		f := impl.Family{Members: members}
		wantNumber(t, "RankSum of no places", f, told(t, f, rankSum(0)), 0)
		wantNumber(t, "RankSums of no clubs", f, told(t, f, impl.RankSums), 1)
		for _, places := range []int{1, 2, 3, 255} {
			wantFailed(t, "RankSum where there are no clubs", ofNumber(impl.RankSum(f, places)))
		}
	}
}

func TestRankSumOfPlacesThatThereAreNot(t *testing.T) {
	for clubs := range impl.ClubsMax + 1 {
		f := impl.Family{Members: 3, Clubs: slices.Repeat([]int{5}, clubs)}
		last := 1 << clubs
		wantNumber(t, "RankSum of all places", f, told(t, f, rankSum(last-1)), 5*(clubs%2))
		for _, places := range []int{last, last + 1, 2*last - 1, 2 * last, 256, 257, 511, 1 << 32, 1<<62 + 1, math.MaxInt} {
			wantFailed(t, "RankSum of places that there are not", ofNumber(impl.RankSum(f, places)))
		}
		for _, places := range []int{-1, -2, -last, -last - 1, -256, math.MinInt, math.MinInt + 1} {
			wantFailed(t, "RankSum of a negative set", ofNumber(impl.RankSum(f, places)))
		}
	}
}

func TestRankSumOfNoFamilies(t *testing.T) {
	for _, f := range noFamilies() {
		for _, places := range []int{0, 1, 3, 7, 255, -1, math.MinInt, math.MaxInt} {
			given := impl.Family{Members: f.Members, Clubs: roomy(f.Clubs)}
			wantFailed(t, "RankSum", ofNumber(impl.RankSum(given, places)))
			wantUntouched(t, "RankSum", given.Clubs, f.Clubs)
		}
	}
}

func TestRankSumLeavesArgumentsAlone(t *testing.T) {
	for _, f := range memoryFamilies() {
		for places := -1; places <= 1<<len(f.Clubs); places++ {
			given := impl.Family{Members: f.Members, Clubs: roomy(f.Clubs)}
			impl.RankSum(given, places)
			wantUntouched(t, "RankSum", given.Clubs, f.Clubs)
		}
	}
}

func TestRankAnswersOfNoFamilies(t *testing.T) {
	for _, f := range noFamilies() {
		wantAnswer(t, "RankOdd", f, impl.RankOdd(f), false)
		wantAnswer(t, "RankSame", f, impl.RankSame(f), false)
	}
}

// Each row is there for itself: one that is written over, its room included, changes no other one.
func TestRankMeetsSharesNoMemory(t *testing.T) {
	for _, c := range everyRankCase() {
		for place := range c.meets {
			rows := told(t, c.family, impl.RankMeets)
			spoil(rows[place])
			for other, row := range rows {
				if other != place {
					wantList(t, "a row of RankMeets", c.family, row, c.meets[other])
				}
			}
		}
	}
}
