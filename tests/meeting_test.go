package tests

import (
	"slices"
	"testing"

	"loop.example/clubsandmembers/impl"
)

func meetCalls() []familyCall {
	return []familyCall{
		{"MeetPairs", func(f impl.Family) outcome { return ofList(impl.MeetPairs(f)) }},
		{"MeetClubs", func(f impl.Family) outcome { return ofList(impl.MeetClubs(f)) }},
		{"MeetHelly", func(f impl.Family) outcome { return outcome{ok: impl.MeetHelly(f)} }},
		{"MeetFull", func(f impl.Family) outcome { return outcome{ok: impl.MeetFull(f)} }},
		{"MeetOrder", func(f impl.Family) outcome { return ofList(impl.MeetOrder(f)) }},
		{"MeetMost", func(f impl.Family) outcome { return ofNumber(impl.MeetMost(f)) }},
		{"MeetStars", func(f impl.Family) outcome { return ofNumber(impl.MeetStars(f)) }},
		{"MeetClose", func(f impl.Family) outcome { return ofFamily(impl.MeetClose(f)) }},
	}
}

// meetCase has what each function returns for one family. Without an order, MeetOrder fails; with closed nil, and not just empty, MeetClose does.
type meetCase struct {
	family       impl.Family
	pairs, clubs []int
	helly, full  bool
	order        []int
	most, stars  int
	closed       []int
}

// evenCases have an even order.
func evenCases() []meetCase {
	return []meetCase{
		{
			family: impl.Family{Members: 3, Clubs: []int{3, 6}}, pairs: []int{2, 5, 2}, clubs: []int{2, 1},
			helly: true, full: true, order: []int{0, 1, 2}, most: 2, stars: 2, closed: []int{2, 3, 6},
		},
		{ // the least member can't be first
			family: impl.Family{Members: 4, Clubs: []int{3, 5, 12, 12}}, pairs: []int{6, 1, 9, 4}, clubs: []int{2, 13, 10, 6},
			helly: true, full: true, order: []int{1, 0, 2, 3}, most: 3, stars: 3, closed: []int{0, 1, 3, 4, 5, 12},
		},
		{ // it can, though not beside the next one
			family: impl.Family{Members: 4, Clubs: []int{5, 12}}, pairs: []int{4, 0, 9, 4}, clubs: []int{2, 1},
			helly: true, full: true, order: []int{0, 2, 3, 1}, most: 2, stars: 2, closed: []int{4, 5, 12},
		},
		{ // clubs without common members
			family: impl.Family{Members: 6, Clubs: []int{33, 18, 12}}, pairs: []int{32, 16, 8, 4, 2, 1}, clubs: []int{0, 0, 0},
			helly: true, full: true, order: []int{0, 5, 1, 4, 2, 3}, most: 1, stars: 1, closed: []int{0, 12, 18, 33},
		},
		{ // a row: 11 sets are closed
			family: impl.Family{Members: 6, Clubs: []int{48, 24, 12, 6, 3}}, pairs: []int{2, 5, 10, 20, 40, 16}, clubs: []int{2, 5, 10, 20, 8},
			helly: true, full: true, order: []int{0, 1, 2, 3, 4, 5}, most: 2, stars: 2,
		},
		{ // one part of the other
			family: impl.Family{Members: 5, Clubs: []int{1, 3, 7, 15, 31}}, pairs: []int{30, 29, 27, 23, 15}, clubs: []int{30, 29, 27, 23, 15},
			helly: true, full: true, order: []int{0, 1, 2, 3, 4}, most: 5, stars: 5, closed: []int{1, 3, 7, 15, 31},
		},
		{
			family: impl.Family{Members: 4, Clubs: []int{7, 14}}, pairs: []int{6, 13, 11, 6}, clubs: []int{2, 1},
			helly: true, full: true, order: []int{0, 1, 2, 3}, most: 2, stars: 2, closed: []int{6, 7, 14},
		},
		{ // one club with all members
			family: impl.Family{Members: 1, Clubs: []int{1}}, pairs: []int{0}, clubs: []int{0},
			helly: true, full: true, order: []int{0}, most: 1, stars: 1, closed: []int{1},
		},
	}
}

// unevenCases have no even order.
func unevenCases() []meetCase {
	return []meetCase{
		{ // each two clubs have a common member, and each two members a common club
			family: impl.Family{Members: 3, Clubs: []int{3, 5, 6}}, pairs: []int{6, 5, 3}, clubs: []int{6, 5, 3},
			most: 3, stars: 2, closed: []int{0, 1, 2, 3, 4, 5, 6},
		},
		{ // full without one for all, and as many closed sets as there may be
			family: impl.Family{Members: 3, Clubs: []int{3, 5, 6, 7}}, pairs: []int{6, 5, 3}, clubs: []int{14, 13, 11, 7},
			full: true, most: 4, stars: 3, closed: []int{0, 1, 2, 3, 4, 5, 6, 7},
		},
		{ // one for all without being full
			family: impl.Family{Members: 4, Clubs: []int{11, 13, 14}}, pairs: []int{14, 13, 11, 7}, clubs: []int{6, 5, 3},
			helly: true, most: 3, stars: 3, closed: []int{8, 9, 10, 11, 12, 13, 14},
		},
		{ // three of four have a common member, all four have none
			family: impl.Family{Members: 4, Clubs: []int{7, 11, 13, 14}}, pairs: []int{14, 13, 11, 7}, clubs: []int{14, 13, 11, 7},
			most: 4, stars: 3,
		},
		{ // a star
			family: impl.Family{Members: 4, Clubs: []int{3, 5, 9}}, pairs: []int{14, 1, 1, 1}, clubs: []int{6, 5, 3},
			helly: true, full: true, most: 3, stars: 3, closed: []int{1, 3, 5, 9},
		},
		{ // a round: one closed set more than there may be
			family: impl.Family{Members: 4, Clubs: []int{3, 6, 12, 9}}, pairs: []int{10, 5, 10, 5}, clubs: []int{10, 5, 10, 5},
			helly: true, full: true, most: 2, stars: 2,
		},
		{ // it falls apart all the same
			family: impl.Family{Members: 6, Clubs: []int{3, 12, 48, 21}}, pairs: []int{22, 1, 25, 4, 37, 16}, clubs: []int{8, 8, 8, 7},
			helly: true, full: true, most: 2, stars: 2, closed: []int{0, 1, 3, 4, 12, 16, 21, 48},
		},
		{ // at the limit of clubs, and closed already
			family: impl.Family{Members: 3, Clubs: []int{7, 6, 5, 4, 3, 2, 1, 0}}, pairs: []int{6, 5, 3}, clubs: []int{126, 61, 91, 7, 103, 19, 21, 0},
			full: true, most: 4, stars: 4, closed: []int{0, 1, 2, 3, 4, 5, 6, 7},
		},
		{ // at both limits: the empty set alone is one too many
			family: impl.Family{Members: 6, Clubs: []int{1, 2, 4, 8, 16, 32, 3, 12}}, pairs: []int{2, 1, 8, 4, 0, 0}, clubs: []int{64, 64, 128, 128, 0, 0, 3, 12},
			helly: true, full: true, order: []int{0, 1, 2, 3, 4, 5}, most: 2, stars: 2,
		},
	}
}

// sameCases have equal clubs, clubs of a single member or empty ones, or none.
func sameCases() []meetCase {
	all := []int{0, 1, 2, 3, 4, 5}
	return []meetCase{
		{
			family: impl.Family{Members: 2, Clubs: []int{3, 3}}, pairs: []int{2, 1}, clubs: []int{2, 1},
			helly: true, full: true, order: []int{0, 1}, most: 2, stars: 2, closed: []int{3},
		},
		{
			family: impl.Family{Members: 6, Clubs: slices.Repeat([]int{63}, impl.ClubsMax)}, pairs: []int{62, 61, 59, 55, 47, 31}, clubs: []int{254, 253, 251, 247, 239, 223, 191, 127},
			helly: true, full: true, order: all, most: 8, stars: 8, closed: []int{63},
		},
		{ // three clubs without one for all, each one twice
			family: impl.Family{Members: 3, Clubs: []int{3, 5, 6, 3, 5, 6}}, pairs: []int{6, 5, 3}, clubs: []int{62, 61, 59, 55, 47, 31},
			most: 6, stars: 4, closed: []int{0, 1, 2, 3, 4, 5, 6},
		},
		{
			family: impl.Family{Members: 6, Clubs: []int{1, 2, 4, 8, 16, 32}}, pairs: make([]int, 6), clubs: make([]int, 6),
			helly: true, full: true, order: all, most: 1, stars: 1, closed: []int{0, 1, 2, 4, 8, 16, 32},
		},
		{
			family: impl.Family{Members: 3, Clubs: []int{2, 4, 2}}, pairs: []int{0, 0, 0}, clubs: []int{4, 0, 1},
			helly: true, full: true, order: []int{0, 1, 2}, most: 2, stars: 2, closed: []int{0, 2, 4},
		},
		// empty clubs
		{
			family: impl.Family{Members: 1, Clubs: []int{0}}, pairs: []int{0}, clubs: []int{0},
			helly: true, full: true, order: []int{0}, closed: []int{0},
		},
		{
			family: impl.Family{Members: 6, Clubs: make([]int, impl.ClubsMax)}, pairs: make([]int, 6), clubs: make([]int, 8),
			helly: true, full: true, order: all, closed: []int{0},
		},
		{
			family: impl.Family{Members: 3, Clubs: []int{0, 3, 3, 0}}, pairs: []int{2, 1, 0}, clubs: []int{0, 4, 2, 0},
			helly: true, full: true, order: []int{0, 1, 2}, most: 2, stars: 2, closed: []int{0, 3},
		},
		{
			family: impl.Family{Members: 3, Clubs: []int{0, 3, 5, 6}}, pairs: []int{6, 5, 3}, clubs: []int{0, 12, 10, 6},
			most: 3, stars: 2, closed: []int{0, 1, 2, 3, 4, 5, 6},
		},
		{ // a row and an empty club
			family: impl.Family{Members: 4, Clubs: []int{3, 6, 12, 0}}, pairs: []int{2, 5, 10, 4}, clubs: []int{2, 5, 2, 0},
			helly: true, full: true, order: []int{0, 1, 2, 3}, most: 2, stars: 2, closed: []int{0, 2, 3, 4, 6, 12},
		},
		// no clubs
		{
			family: impl.Family{Members: 1}, pairs: []int{0},
			helly: true, full: true, order: []int{0}, closed: []int{},
		},
		{
			family: impl.Family{Members: 6, Clubs: []int{}}, pairs: make([]int, 6),
			helly: true, full: true, order: all, closed: []int{},
		},
	}
}

func everyMeetCase() []meetCase {
	return slices.Concat(evenCases(), unevenCases(), sameCases())
}

func TestMeetLists(t *testing.T) {
	for _, c := range everyMeetCase() {
		wantList(t, "MeetPairs", c.family, told(t, c.family, impl.MeetPairs), c.pairs)
		wantList(t, "MeetClubs", c.family, told(t, c.family, impl.MeetClubs), c.clubs)
		wantListOrNone(t, "MeetOrder", c.family, impl.MeetOrder, c.order)
	}
}

func TestMeetAnswers(t *testing.T) {
	for _, c := range everyMeetCase() {
		wantAnswer(t, "MeetHelly", c.family, impl.MeetHelly(c.family), c.helly)
		wantAnswer(t, "MeetFull", c.family, impl.MeetFull(c.family), c.full)
	}
}

func TestMeetNumbers(t *testing.T) {
	for _, c := range everyMeetCase() {
		wantNumber(t, "MeetMost", c.family, told(t, c.family, impl.MeetMost), c.most)
		wantNumber(t, "MeetStars", c.family, told(t, c.family, impl.MeetStars), c.stars)
	}
}

func TestMeetClose(t *testing.T) {
	for _, c := range everyMeetCase() {
		if c.closed == nil {
			wantFailed(t, "MeetClose of too many", ofFamily(impl.MeetClose(c.family)))
			continue
		}
		wantFamily(t, "MeetClose", c.family.Members, c.closed, ofFamily(impl.MeetClose(c.family)))
	}
}

// An empty club more, wherever it is put, changes just what is told of each club, and the closed family.
func TestMeetWithAnEmptyClub(t *testing.T) {
	for _, c := range everyMeetCase() {
		f := c.family
		if len(f.Clubs) == impl.ClubsMax {
			continue
		}
		g := impl.Family{Members: f.Members, Clubs: append(slices.Clone(f.Clubs), 0)}
		wantList(t, "MeetClubs with an empty club behind", g, told(t, g, impl.MeetClubs), append(slices.Clone(c.clubs), 0))
		for place := range len(f.Clubs) + 1 {
			g := impl.Family{Members: f.Members, Clubs: slices.Insert(slices.Clone(f.Clubs), place, 0)}
			wantList(t, "MeetPairs with an empty club", g, told(t, g, impl.MeetPairs), c.pairs)
			wantAnswer(t, "MeetHelly with an empty club", g, impl.MeetHelly(g), c.helly)
			wantAnswer(t, "MeetFull with an empty club", g, impl.MeetFull(g), c.full)
			wantListOrNone(t, "MeetOrder with an empty club", g, impl.MeetOrder, c.order)
			wantNumber(t, "MeetMost with an empty club", g, told(t, g, impl.MeetMost), c.most)
			wantNumber(t, "MeetStars with an empty club", g, told(t, g, impl.MeetStars), c.stars)
		}
	}
}

func TestMeetAnswersOfNoFamilies(t *testing.T) {
	for _, f := range noFamilies() {
		wantAnswer(t, "MeetHelly", f, impl.MeetHelly(f), false)
		wantAnswer(t, "MeetFull", f, impl.MeetFull(f), false)
	}
}
