package tests

import (
	"math"
	"testing"

	"loop.example/clubsandmembers/impl"
)

func coverCalls() []familyCall {
	return []familyCall{
		{"CoverIn of all members", func(f impl.Family) outcome { return outcome{ok: impl.CoverIn(f, everyone(f))} }},
		{"CoverSets", func(f impl.Family) outcome { return ofList(impl.CoverSets(f)) }},
		{"CoverClubs", func(f impl.Family) outcome { return ofList(impl.CoverClubs(f)) }},
		{"CoverSplit", func(f impl.Family) outcome { return ofList(impl.CoverSplit(f)) }},
		{"CoverSmall", func(f impl.Family) outcome { return ofNumber(impl.CoverSmall(f)) }},
		{"CoverPack", func(f impl.Family) outcome { return ofNumber(impl.CoverPack(f)) }},
		{"CoverGreedy", func(f impl.Family) outcome { return ofNumber(impl.CoverGreedy(f)) }},
		{"CoverMany", func(f impl.Family) outcome { return ofNumber(impl.CoverMany(f)) }},
		{"CoverFree", func(f impl.Family) outcome { return ofList(impl.CoverFree(f)) }},
	}
}

// everyone is 0 for numbers of members that are none, so that a call is then refused for its family alone.
func everyone(f impl.Family) int {
	if f.Members < 0 || f.Members > impl.MembersMax {
		return 0
	}
	return 1<<f.Members - 1
}

// none stands in the cases where a function fails.
const none = -1

// coverCase has what each function returns for one family.
type coverCase struct {
	family              impl.Family
	covers, free        []int
	small, pack, greedy int
	many                int
	own                 bool
}

func coverCases() []coverCase {
	return []coverCase{
		{
			family: impl.Family{Members: 3, Clubs: []int{3, 5, 6}}, covers: []int{3, 5, 6}, free: []int{1, 2, 4},
			small: 2, pack: 1, greedy: 3, many: 4, own: true,
		},
		{
			family: impl.Family{Members: 4, Clubs: []int{3, 12}}, covers: []int{5, 6, 9, 10}, free: []int{5, 6, 9, 10},
			small: 2, pack: 2, greedy: 5, many: 9,
		},
		{ // equal clubs, and clubs that are a part of another one
			family: impl.Family{Members: 4, Clubs: []int{10, 12, 15, 10, 14}}, covers: []int{6, 8}, free: []int{7, 9},
			small: 1, pack: 1, greedy: 8, many: 10,
		},
		{ // the pack is without the first club
			family: impl.Family{Members: 4, Clubs: []int{15, 3, 12}}, covers: []int{5, 6, 9, 10}, free: []int{5, 6, 9, 10},
			small: 2, pack: 2, greedy: 5, many: 9,
		},
		{ // a row: taking where most clubs are leads to no least number, but to a least cover
			family: impl.Family{Members: 6, Clubs: []int{48, 24, 12, 6, 3}}, covers: []int{21, 22, 26, 42, 45}, free: []int{18, 21, 37, 41, 42},
			small: 3, pack: 3, greedy: 26, many: 21,
		},
		{ // the greedy cover has a member that it does not need
			family: impl.Family{Members: 3, Clubs: []int{4, 5, 3, 2}}, covers: []int{6}, free: []int{1},
			small: 2, pack: 2, greedy: 7, many: 2,
		},
		{ // half of all sets are covers, but two clubs have no common member
			family: impl.Family{Members: 4, Clubs: []int{3, 10, 5}}, covers: []int{3, 6, 9}, free: []int{6, 9, 12},
			small: 2, pack: 2, greedy: 3, many: 8,
		},
		{ // each two clubs have a common member, and the family is not own
			family: impl.Family{Members: 3, Clubs: []int{3, 5}}, covers: []int{1, 6}, free: []int{1, 6},
			small: 1, pack: 1, greedy: 1, many: 5,
		},
		{
			family: impl.Family{Members: 3, Clubs: []int{7}}, covers: []int{1, 2, 4}, free: []int{3, 5, 6},
			small: 1, pack: 1, greedy: 1, many: 7,
		},
	}
}

// ownCases are own for reasons of each kind: other clubs than the least ones do not matter, nor their order.
func ownCases() []coverCase {
	return []coverCase{
		{
			family: impl.Family{Members: 1, Clubs: []int{1}}, covers: []int{1}, free: []int{0},
			small: 1, pack: 1, greedy: 1, many: 1, own: true,
		},
		{
			family: impl.Family{Members: 6, Clubs: []int{32}}, covers: []int{32}, free: []int{31},
			small: 1, pack: 1, greedy: 32, many: 32, own: true,
		},
		{
			family: impl.Family{Members: 3, Clubs: []int{7, 6, 3, 5, 3}}, covers: []int{3, 5, 6}, free: []int{1, 2, 4},
			small: 2, pack: 1, greedy: 3, many: 4, own: true,
		},
		{
			family: impl.Family{Members: 4, Clubs: []int{3, 5, 9, 14}}, covers: []int{3, 5, 9, 14}, free: []int{1, 6, 10, 12},
			small: 2, pack: 1, greedy: 3, many: 8, own: true,
		},
		{
			family: impl.Family{Members: 6, Clubs: []int{62, 33, 17, 9, 5, 3, 33, 63}}, covers: []int{3, 5, 9, 17, 33, 62},
			free: []int{1, 30, 46, 54, 58, 60}, small: 2, pack: 1, greedy: 3, many: 32, own: true,
		},
	}
}

// edgeCovers have no clubs, an empty club, or more least covers than ClubsMax.
func edgeCovers() []coverCase {
	return []coverCase{
		{family: impl.Family{Members: 1}, covers: []int{0}, free: []int{1}, many: 2},
		{family: impl.Family{Members: 6, Clubs: []int{}}, covers: []int{0}, free: []int{63}, many: 64},
		{family: impl.Family{Members: 1, Clubs: []int{0}}, small: none, pack: 1, greedy: none},
		{family: impl.Family{Members: 4, Clubs: []int{3, 0, 12, 12}}, small: none, pack: 3, greedy: none},
		{family: impl.Family{Members: 2, Clubs: []int{3, 3, 0}}, small: none, pack: 2, greedy: none},
		{family: impl.Family{Members: 6, Clubs: []int{1, 2, 4, 8, 16, 32, 0, 63}}, small: none, pack: 7, greedy: none},
		{family: impl.Family{Members: 6, Clubs: make([]int, 8)}, small: none, pack: 8, greedy: none},
		{
			family: impl.Family{Members: 6, Clubs: []int{63, 63, 63, 63, 63, 63, 63, 63}}, covers: []int{1, 2, 4, 8, 16, 32},
			free: []int{31, 47, 55, 59, 61, 62}, small: 1, pack: 1, greedy: 1, many: 63,
		},
		{
			family: impl.Family{Members: 6, Clubs: []int{63, 1, 2, 4, 8, 16, 32}}, covers: []int{63}, free: []int{0},
			small: 6, pack: 6, greedy: 63, many: 1,
		},
		{
			family: impl.Family{Members: 6, Clubs: []int{3, 12, 48}}, covers: []int{21, 22, 25, 26, 37, 38, 41, 42},
			free: []int{21, 22, 25, 26, 37, 38, 41, 42}, small: 3, pack: 3, greedy: 21, many: 27,
		},
		{
			family: impl.Family{Members: 6, Clubs: []int{7, 56}}, covers: []int{9, 10, 12, 17, 18, 20, 33, 34, 36},
			free: []int{27, 29, 30, 43, 45, 46, 51, 53, 54}, small: 2, pack: 2, greedy: 9, many: 49,
		},
		{
			family: impl.Family{Members: 6, Clubs: []int{24, 41, 38, 15, 28, 21, 51}},
			covers: []int{11, 13, 14, 19, 21, 26, 28, 41, 44, 49, 50, 52, 56},
			free:   []int{7, 11, 13, 14, 19, 22, 35, 37, 42, 44, 49, 50, 52}, small: 3, pack: 2, greedy: 13, many: 34,
		},
		{
			family: impl.Family{Members: 6, Clubs: []int{42, 11, 48, 29, 39, 37, 23, 28}},
			covers: []int{19, 22, 25, 28, 37, 38, 41, 42, 44, 49, 50, 56},
			free:   []int{7, 13, 14, 19, 21, 22, 25, 26, 35, 38, 41, 44}, small: 3, pack: 2, greedy: 25, many: 33,
		},
	}
}

func everyCoverCase() []coverCase {
	return append(append(coverCases(), ownCases()...), edgeCovers()...)
}

func TestCoverLists(t *testing.T) {
	for _, c := range everyCoverCase() {
		wantList(t, "CoverSets", c.family, told(t, c.family, impl.CoverSets), c.covers)
		wantList(t, "CoverClubs", c.family, told(t, c.family, impl.CoverClubs), c.covers)
		wantList(t, "CoverSplit", c.family, told(t, c.family, impl.CoverSplit), c.covers)
		wantList(t, "CoverFree", c.family, told(t, c.family, impl.CoverFree), c.free)
	}
}

func wantNumberOrNone(t *testing.T, what string, f impl.Family, call func(impl.Family) (int, bool), want int) {
	t.Helper()
	if want == none {
		wantFailed(t, what, ofNumber(call(f)))
		return
	}
	wantNumber(t, what, f, told(t, f, call), want)
}

func TestCoverNumbers(t *testing.T) {
	for _, c := range everyCoverCase() {
		wantNumberOrNone(t, "CoverSmall", c.family, impl.CoverSmall, c.small)
		wantNumberOrNone(t, "CoverGreedy", c.family, impl.CoverGreedy, c.greedy)
		wantNumber(t, "CoverPack", c.family, told(t, c.family, impl.CoverPack), c.pack)
		wantNumber(t, "CoverMany", c.family, told(t, c.family, impl.CoverMany), c.many)
	}
}

func TestCoverOwn(t *testing.T) {
	for _, c := range everyCoverCase() {
		if impl.CoverOwn(c.family) != c.own {
			t.Errorf("CoverOwn of %v is %v", c.family, !c.own)
		}
	}
}

func TestCoverIn(t *testing.T) {
	f := impl.Family{Members: 4, Clubs: []int{3, 12}}
	covers := []int{5, 6, 7, 9, 10, 11, 13, 14, 15}
	for set := range 16 {
		if impl.CoverIn(f, set) != hasNumber(covers, set) {
			t.Errorf("CoverIn of %v and %d is %v", f, set, impl.CoverIn(f, set))
		}
	}
}

// Even without clubs, where each set is a cover, a set has to be one of members.
func TestCoverInOfSetsThatAreNone(t *testing.T) {
	for _, clubs := range [][]int{nil, {7}, {1}, {4, 3}, {0}} {
		for _, set := range []int{-1, -8, 8, 9, 15, 64, math.MinInt, math.MinInt + 7, math.MaxInt} {
			if impl.CoverIn(impl.Family{Members: 3, Clubs: clubs}, set) {
				t.Errorf("CoverIn of %v holds for %d, no set of 3 members", clubs, set)
			}
		}
	}
	if impl.CoverIn(impl.Family{Members: impl.MembersMax}, 64) || !impl.CoverIn(impl.Family{Members: impl.MembersMax}, 63) {
		t.Errorf("CoverIn does not hold just up to 63 for %d members", impl.MembersMax)
	}
}

func TestCoverAnswersOfNoFamilies(t *testing.T) {
	for _, f := range noFamilies() {
		if impl.CoverOwn(f) {
			t.Errorf("CoverOwn holds for %v", f)
		}
		for _, set := range []int{0, 1, 3, 7, 15, -1, math.MaxInt, math.MinInt} {
			if impl.CoverIn(f, set) {
				t.Errorf("CoverIn holds for %v and %d", f, set)
			}
		}
	}
}

func TestCoverAnswersLeaveArgumentsAlone(t *testing.T) {
	for _, f := range append(memoryFamilies(), noFamilies()...) {
		given := impl.Family{Members: f.Members, Clubs: roomy(f.Clubs)}
		first, second := impl.CoverOwn(given), impl.CoverIn(given, 1)
		wantUntouched(t, "CoverOwn or CoverIn", given.Clubs, f.Clubs)
		if first != impl.CoverOwn(f) || second != impl.CoverIn(f, 1) {
			t.Errorf("CoverOwn or CoverIn of %v keeps state between calls", f)
		}
	}
}
