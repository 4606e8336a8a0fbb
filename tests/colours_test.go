package tests

import (
	"math"
	"slices"
	"strconv"
	"testing"

	"loop.example/clubsandmembers/impl"
)

// coloursMax is the greatest number of colours that may be told.
const coloursMax = 4

// colourCalls leave out ColourFirst with one colour: it succeeds just without clubs.
func colourCalls() []familyCall {
	made := []familyCall{
		{"ColourLeast", func(f impl.Family) outcome { return ofNumber(impl.ColourLeast(f)) }},
		{"ColourUneven", func(f impl.Family) outcome { return ofNumber(impl.ColourUneven(f)) }},
		{"ColourSets", func(f impl.Family) outcome { return ofList(impl.ColourSets(f)) }},
	}
	for k := range coloursMax + 1 {
		by := " by " + strconv.Itoa(k)
		made = append(made,
			familyCall{"ColourMany" + by, func(f impl.Family) outcome { return ofNumber(impl.ColourMany(f, k)) }},
			familyCall{"ColourProper" + by, func(f impl.Family) outcome { return ofNumber(impl.ColourProper(f, k)) }})
		if k >= 2 {
			made = append(made, familyCall{"ColourFirst" + by, func(f impl.Family) outcome { return ofList(impl.ColourFirst(f, k)) }})
		}
	}
	return made
}

// byColours has one number for each number of colours, from none on.
type byColours [coloursMax + 1]int

// colourCase has what each function returns for one family. The places of the first colours are their numbers of colours; without a list, ColourFirst fails.
type colourCase struct {
	family       impl.Family
	many, proper byColours
	first        [coloursMax + 1][]int
	least        int
	uneven       int
	sets         []int
}

// firstFrom has the same first colours for each number of them from the least one on.
func firstFrom(least int, list []int) [coloursMax + 1][]int {
	var made [coloursMax + 1][]int
	for k := least; k <= coloursMax; k++ {
		made[k] = list
	}
	return made
}

func between(first, last int) []int {
	var made []int
	for ; first <= last; first++ {
		made = append(made, first)
	}
	return made
}

func colourCases() []colourCase {
	return []colourCase{
		{
			family: impl.Family{Members: 2, Clubs: []int{3}}, many: byColours{0, 0, 2, 6, 12}, proper: byColours{0, 0, 2, 6, 12},
			first: firstFrom(2, []int{0, 1}), least: 2, uneven: 0, sets: []int{1, 2},
		},
		{ // each two are in a club
			family: impl.Family{Members: 3, Clubs: []int{3, 5, 6}}, many: byColours{0, 0, 0, 6, 24}, proper: byColours{0, 0, 0, 6, 24},
			first: firstFrom(3, []int{0, 1, 2}), least: 3, uneven: 2,
		},
		{ // two of three may have the same one
			family: impl.Family{Members: 3, Clubs: []int{7}}, many: byColours{0, 0, 6, 24, 60}, proper: byColours{0, 0, 0, 6, 24},
			first: firstFrom(2, []int{0, 0, 1}), least: 2, uneven: 1, sets: []int{1, 2, 3, 4, 5, 6},
		},
		{
			family: impl.Family{Members: 4, Clubs: []int{15}}, many: byColours{0, 0, 14, 78, 252}, proper: byColours{0, 0, 0, 0, 24},
			first: firstFrom(2, []int{0, 0, 0, 1}), least: 2, uneven: 0, sets: between(1, 14),
		},
		{
			family: impl.Family{Members: 5, Clubs: []int{31}}, many: byColours{0, 0, 30, 240, 1020},
			first: firstFrom(2, []int{0, 0, 0, 0, 1}), least: 2, uneven: 1, sets: between(1, 30),
		},
		{
			family: impl.Family{Members: 4, Clubs: []int{3, 12}}, many: byColours{0, 0, 4, 36, 144}, proper: byColours{0, 0, 4, 36, 144},
			first: firstFrom(2, []int{0, 1, 0, 1}), least: 2, uneven: 0, sets: []int{5, 6, 9, 10},
		},
		{ // a row
			family: impl.Family{Members: 6, Clubs: []int{48, 24, 12, 6, 3}}, many: byColours{0, 0, 2, 96, 972}, proper: byColours{0, 0, 2, 96, 972},
			first: firstFrom(2, []int{0, 1, 0, 1, 0, 1}), least: 2, uneven: 0, sets: []int{21, 42},
		},
		{ // what the first two colours leave alike makes all four members even
			family: impl.Family{Members: 4, Clubs: []int{15, 3, 12, 5}}, many: byColours{0, 0, 2, 24, 108}, proper: byColours{0, 0, 0, 0, 24},
			first: firstFrom(2, []int{0, 1, 1, 0}), least: 2, uneven: 0, sets: []int{6, 9},
		},
		{ // with more colours the first two members may have the same one
			family: impl.Family{Members: 4, Clubs: []int{5, 12, 10}}, many: byColours{0, 0, 2, 24, 108}, proper: byColours{0, 0, 2, 24, 108},
			first: [coloursMax + 1][]int{2: {0, 1, 1, 0}, 3: {0, 0, 1, 2}, 4: {0, 0, 1, 2}}, least: 2, uneven: 0, sets: []int{6, 9},
		},
		{ // four colours are needed
			family: impl.Family{Members: 4, Clubs: []int{3, 5, 9, 6, 10, 12}}, many: byColours{0, 0, 0, 0, 24}, proper: byColours{0, 0, 0, 0, 24},
			first: firstFrom(4, []int{0, 1, 2, 3}), least: 4, uneven: 2,
		},
		{ // four colours are needed, at both limits
			family: impl.Family{Members: 6, Clubs: []int{12, 20, 36, 24, 40, 48, 3, 7}}, many: byColours{0, 0, 0, 0, 288}, proper: byColours{0, 0, 0, 0, 144},
			first: firstFrom(4, []int{0, 1, 0, 1, 2, 3}), least: 4, uneven: 2,
		},
		{ // equal clubs
			family: impl.Family{Members: 3, Clubs: []int{3, 3, 5}}, many: byColours{0, 0, 2, 12, 36}, proper: byColours{0, 0, 2, 12, 36},
			first: firstFrom(2, []int{0, 1, 1}), least: 2, uneven: 0, sets: []int{1, 6},
		},
		{
			family: impl.Family{Members: 6, Clubs: slices.Repeat([]int{63}, impl.ClubsMax)}, many: byColours{0, 0, 62, 726, 4092},
			first: firstFrom(2, []int{0, 0, 0, 0, 0, 1}), least: 2, uneven: 0, sets: between(1, 62),
		},
	}
}

// edgeColours have no clubs, or clubs of less than two members: these are never mixed, but forbid no two of them a colour.
func edgeColours() []colourCase {
	return []colourCase{
		{
			family: impl.Family{Members: 1}, many: byColours{0, 1, 2, 3, 4}, proper: byColours{0, 1, 2, 3, 4},
			first: firstFrom(1, []int{0}), least: 1, sets: []int{0, 1},
		},
		{
			family: impl.Family{Members: 6, Clubs: []int{}}, many: byColours{0, 1, 64, 729, 4096}, proper: byColours{0, 1, 64, 729, 4096},
			first: firstFrom(1, []int{0, 0, 0, 0, 0, 0}), least: 1, sets: between(0, 63),
		},
		{family: impl.Family{Members: 1, Clubs: []int{0}}, proper: byColours{0, 1, 2, 3, 4}, least: none},
		{family: impl.Family{Members: 1, Clubs: []int{1}}, proper: byColours{0, 1, 2, 3, 4}, least: none, uneven: 1},
		{family: impl.Family{Members: 1, Clubs: []int{1, 0, 1}}, proper: byColours{0, 1, 2, 3, 4}, least: none, uneven: 1},
		{family: impl.Family{Members: 3, Clubs: []int{0, 7}}, proper: byColours{0, 0, 0, 6, 24}, least: none, uneven: 1},
		{family: impl.Family{Members: 3, Clubs: []int{3, 4}}, proper: byColours{0, 0, 4, 18, 48}, least: none, uneven: 1},
		{family: impl.Family{Members: 4, Clubs: []int{3, 12, 0}}, proper: byColours{0, 0, 4, 36, 144}, least: none},
		{family: impl.Family{Members: 6, Clubs: make([]int, impl.ClubsMax)}, proper: byColours{0, 1, 64, 729, 4096}, least: none},
		{family: impl.Family{Members: 6, Clubs: []int{1, 2, 4, 8, 16, 32}}, proper: byColours{0, 1, 64, 729, 4096}, least: none, uneven: 1},
		{family: impl.Family{Members: 6, Clubs: []int{1, 2, 4, 8, 16, 32, 0, 63}}, least: none, uneven: 1},
	}
}

func everyColourCase() []colourCase {
	return slices.Concat(colourCases(), edgeColours())
}

func TestColourNumbers(t *testing.T) {
	for _, c := range everyColourCase() {
		for k := range coloursMax + 1 {
			by := " by " + strconv.Itoa(k)
			wantNumber(t, "ColourMany"+by, c.family, told(t, c.family, colourMany(k)), c.many[k])
			wantNumber(t, "ColourProper"+by, c.family, told(t, c.family, colourProper(k)), c.proper[k])
		}
		wantNumberOrNone(t, "ColourLeast", c.family, impl.ColourLeast, c.least)
		wantNumber(t, "ColourUneven", c.family, told(t, c.family, impl.ColourUneven), c.uneven)
	}
}

func colourMany(k int) func(impl.Family) (int, bool) {
	return func(f impl.Family) (int, bool) { return impl.ColourMany(f, k) }
}

func colourProper(k int) func(impl.Family) (int, bool) {
	return func(f impl.Family) (int, bool) { return impl.ColourProper(f, k) }
}

func colourFirst(k int) func(impl.Family) ([]int, bool) {
	return func(f impl.Family) ([]int, bool) { return impl.ColourFirst(f, k) }
}

func TestColourLists(t *testing.T) {
	for _, c := range everyColourCase() {
		for k := 1; k <= coloursMax; k++ {
			wantListOrNone(t, "ColourFirst by "+strconv.Itoa(k), c.family, colourFirst(k), c.first[k])
		}
		wantList(t, "ColourSets", c.family, told(t, c.family, impl.ColourSets), c.sets)
	}
}

// wrongColours are told for no function.
func wrongColours() []int {
	return []int{-1, -4, coloursMax + 1, coloursMax + 2, impl.MembersMax, 64, math.MinInt, math.MaxInt}
}

func TestColoursThatAreNone(t *testing.T) {
	for _, c := range everyColourCase() {
		for _, k := range wrongColours() {
			by := " by " + strconv.Itoa(k)
			wantFailed(t, "ColourMany"+by, ofNumber(impl.ColourMany(c.family, k)))
			wantFailed(t, "ColourFirst"+by, ofList(impl.ColourFirst(c.family, k)))
			wantFailed(t, "ColourProper"+by, ofNumber(impl.ColourProper(c.family, k)))
		}
		wantFailed(t, "ColourFirst by 0", ofList(impl.ColourFirst(c.family, 0)))
	}
}

func TestColoursOfNoFamilies(t *testing.T) {
	for _, f := range noFamilies() {
		for _, k := range append(between(0, coloursMax), wrongColours()...) {
			by := " by " + strconv.Itoa(k)
			wantFailed(t, "ColourMany"+by, ofNumber(impl.ColourMany(f, k)))
			wantFailed(t, "ColourFirst"+by, ofList(impl.ColourFirst(f, k)))
			wantFailed(t, "ColourProper"+by, ofNumber(impl.ColourProper(f, k)))
		}
	}
}

// The other calls are with the calls of all chapters. One colour, and numbers of them that are none, are just here.
func TestColourFirstLeavesArgumentsAlone(t *testing.T) {
	for _, f := range append(memoryFamilies(), noFamilies()...) {
		for _, k := range append(between(0, coloursMax), wrongColours()...) {
			given := impl.Family{Members: f.Members, Clubs: roomy(f.Clubs)}
			made, _ := impl.ColourFirst(given, k)
			kept := slices.Clone(made)
			wantUntouched(t, "ColourFirst", given.Clubs, f.Clubs)
			spoil(made)
			wantUntouched(t, "ColourFirst with its result written over", given.Clubs, f.Clubs)
			again, _ := impl.ColourFirst(given, k)
			wantList(t, "ColourFirst, asked again,", f, again, kept)
		}
	}
}
