package tests

import (
	"math"
	"slices"
	"testing"

	"loop.example/clubsandmembers/impl"
)

// familyCalls give further arguments that are valid for each family with a club that is not full.
func familyCalls() []familyCall {
	return []familyCall{
		{"FamilyDegrees", func(f impl.Family) outcome { return ofList(impl.FamilyDegrees(f)) }},
		{"FamilySizes", func(f impl.Family) outcome { return ofList(impl.FamilySizes(f)) }},
		{"FamilyDual", func(f impl.Family) outcome { return ofFamily(impl.FamilyDual(f)) }},
		{"FamilyMeet", func(f impl.Family) outcome { return ofFamily(impl.FamilyMeet(f, 1)) }},
		{"FamilyPut", func(f impl.Family) outcome { return ofFamily(impl.FamilyPut(f, 1)) }},
		{"FamilyDrop", func(f impl.Family) outcome { return ofFamily(impl.FamilyDrop(f, 0)) }},
		{"FamilyDrop of the last", func(f impl.Family) outcome { return ofFamily(impl.FamilyDrop(f, len(f.Clubs)-1)) }},
		{"FamilySimple", func(f impl.Family) outcome { return ofFamily(impl.FamilySimple(f)) }},
		{"FamilyLeast", func(f impl.Family) outcome { return ofFamily(impl.FamilyLeast(f)) }},
		{"FamilyGreatest", func(f impl.Family) outcome { return ofFamily(impl.FamilyGreatest(f)) }},
		{"FamilyOther", func(f impl.Family) outcome { return ofFamily(impl.FamilyOther(f)) }},
		{"FamilyAll", func(f impl.Family) outcome { return ofNumber(impl.FamilyAll(f)) }},
		{"FamilyCommon", func(f impl.Family) outcome { return ofNumber(impl.FamilyCommon(f)) }},
		{"FamilyNamed", func(f impl.Family) outcome { return ofFamily(impl.FamilyNamed(f, backwards(f.Members))) }},
		{"FamilyParts", func(f impl.Family) outcome { return ofNumber(impl.FamilyParts(f)) }},
	}
}

// backwards stays short for numbers of members that are none, and does not wrap around for the least one.
func backwards(members int) []int {
	var names []int
	for name := 0; name < min(members, 100); name++ {
		names = append(names, name)
	}
	slices.Reverse(names)
	return names
}

func TestFamilyLimits(t *testing.T) {
	if impl.MembersMax != 6 || impl.ClubsMax != 8 {
		t.Errorf("the limits are %d and %d", impl.MembersMax, impl.ClubsMax)
	}
}

func TestFamilyInHolds(t *testing.T) {
	for _, f := range samples() {
		if !impl.FamilyIn(f) {
			t.Errorf("FamilyIn does not hold for %v", f)
		}
	}
}

func TestFamilyInDoesNotHold(t *testing.T) {
	for _, f := range noFamilies() {
		if impl.FamilyIn(f) {
			t.Errorf("FamilyIn holds for %v", f)
		}
	}
}

// familyCase has what each function returns for one family; lists of clubs where the result is a family.
type familyCase struct {
	family                         impl.Family
	degrees, sizes                 []int
	simple, least, greatest, other []int
	everyone, common, parts        int
	named                          []int // by the names backwards
	met                            []int // with the member 0 and the member 1, if there is one
	dual                           []int // nil if there is none
}

func familyCases() []familyCase {
	return []familyCase{
		{
			family: impl.Family{Members: 3, Clubs: []int{3, 5, 6}}, degrees: []int{2, 2, 2}, sizes: []int{2, 2, 2},
			simple: []int{3, 5, 6}, least: []int{3, 5, 6}, greatest: []int{3, 5, 6}, other: []int{4, 2, 1},
			everyone: 7, common: 0, parts: 1, named: []int{6, 5, 3}, met: []int{3, 1, 2}, dual: []int{3, 5, 6},
		},
		{ // the clubs out of order, one twice, one a part of another one, and a member of no club
			family: impl.Family{Members: 5, Clubs: []int{12, 3, 1, 12, 4}}, degrees: []int{2, 1, 3, 2, 0}, sizes: []int{2, 2, 1, 2, 1},
			simple: []int{1, 3, 4, 12}, least: []int{1, 4}, greatest: []int{3, 12}, other: []int{19, 28, 30, 19, 27},
			everyone: 15, common: 0, parts: 3, named: []int{6, 24, 16, 6, 4}, met: []int{0, 3, 1, 0, 0}, dual: []int{6, 2, 25, 9, 0},
		},
		{ // no clubs
			family: impl.Family{Members: 4}, degrees: []int{0, 0, 0, 0}, everyone: 0, common: 15, parts: 4,
		},
		{ // no clubs, one member
			family: impl.Family{Members: 1, Clubs: []int{}}, degrees: []int{0}, everyone: 0, common: 1, parts: 1,
		},
		{ // no clubs, the most members
			family: impl.Family{Members: 6}, degrees: []int{0, 0, 0, 0, 0, 0}, everyone: 0, common: 63, parts: 6,
		},
		{ // an empty club alone
			family: impl.Family{Members: 2, Clubs: []int{0}}, degrees: []int{0, 0}, sizes: []int{0},
			simple: []int{0}, least: []int{0}, greatest: []int{0}, other: []int{3},
			everyone: 0, common: 0, parts: 2, named: []int{0}, met: []int{0}, dual: []int{0, 0},
		},
		{ // an empty club beside others, twice
			family: impl.Family{Members: 3, Clubs: []int{6, 0, 7, 0}}, degrees: []int{1, 2, 2}, sizes: []int{2, 0, 3, 0},
			simple: []int{0, 6, 7}, least: []int{0}, greatest: []int{7}, other: []int{1, 7, 0, 7},
			everyone: 7, common: 0, parts: 1, named: []int{3, 0, 7, 0}, met: []int{2, 0, 3, 0}, dual: []int{4, 5, 5},
		},
		{ // equal clubs alone
			family: impl.Family{Members: 3, Clubs: []int{6, 6, 6}}, degrees: []int{0, 3, 3}, sizes: []int{2, 2, 2},
			simple: []int{6}, least: []int{6}, greatest: []int{6}, other: []int{1, 1, 1},
			everyone: 6, common: 6, parts: 2, named: []int{3, 3, 3}, met: []int{2, 2, 2}, dual: []int{0, 7, 7},
		},
		{ // both limits
			family: impl.Family{Members: 6, Clubs: []int{63, 32, 33, 48, 32, 63, 36, 40}}, degrees: []int{3, 2, 3, 3, 3, 8}, sizes: []int{6, 1, 2, 2, 1, 6, 2, 2},
			simple: []int{32, 33, 36, 40, 48, 63}, least: []int{32}, greatest: []int{63}, other: []int{0, 31, 30, 15, 31, 0, 27, 23},
			everyone: 63, common: 32, parts: 1, named: []int{63, 1, 33, 3, 1, 63, 9, 5}, met: []int{3, 0, 1, 0, 0, 3, 0, 0},
		},
		{ // clubs that lead from one to the other one backwards only
			family: impl.Family{Members: 6, Clubs: []int{48, 24, 12, 6, 3}}, degrees: []int{1, 2, 2, 2, 2, 1}, sizes: []int{2, 2, 2, 2, 2},
			simple: []int{3, 6, 12, 24, 48}, least: []int{3, 6, 12, 24, 48}, greatest: []int{3, 6, 12, 24, 48}, other: []int{15, 39, 51, 57, 60},
			everyone: 63, common: 0, parts: 1, named: []int{3, 6, 12, 24, 48}, met: []int{0, 0, 0, 2, 3}, dual: []int{16, 24, 12, 6, 3, 1},
		},
	}
}

func TestFamilyLists(t *testing.T) {
	for _, c := range familyCases() {
		if got := told(t, c.family, impl.FamilyDegrees); !slices.Equal(got, c.degrees) {
			t.Errorf("FamilyDegrees of %v is %v", c.family, got)
		}
		if got := told(t, c.family, impl.FamilySizes); !slices.Equal(got, c.sizes) {
			t.Errorf("FamilySizes of %v is %v", c.family, got)
		}
	}
}

func TestFamilyFamilies(t *testing.T) {
	for _, c := range familyCases() {
		f := c.family
		wantFamily(t, "FamilySimple", f.Members, c.simple, ofFamily(impl.FamilySimple(f)))
		wantFamily(t, "FamilyLeast", f.Members, c.least, ofFamily(impl.FamilyLeast(f)))
		wantFamily(t, "FamilyGreatest", f.Members, c.greatest, ofFamily(impl.FamilyGreatest(f)))
		wantFamily(t, "FamilyOther", f.Members, c.other, ofFamily(impl.FamilyOther(f)))
		wantFamily(t, "FamilyNamed", f.Members, c.named, ofFamily(impl.FamilyNamed(f, backwards(f.Members))))
		wantFamily(t, "FamilyMeet", f.Members, c.met, ofFamily(impl.FamilyMeet(f, min(3, 1<<f.Members-1))))
	}
}

func TestFamilyNumbers(t *testing.T) {
	for _, c := range familyCases() {
		if got := told(t, c.family, impl.FamilyAll); got != c.everyone {
			t.Errorf("FamilyAll of %v is %d", c.family, got)
		}
		if got := told(t, c.family, impl.FamilyCommon); got != c.common {
			t.Errorf("FamilyCommon of %v is %d", c.family, got)
		}
		if got := told(t, c.family, impl.FamilyParts); got != c.parts {
			t.Errorf("FamilyParts of %v is %d", c.family, got)
		}
	}
}

func TestFamilyDual(t *testing.T) {
	for _, c := range familyCases() {
		if got := ofFamily(impl.FamilyDual(c.family)); c.dual == nil {
			wantFailed(t, "FamilyDual", got)
		} else {
			wantFamily(t, "FamilyDual", len(c.family.Clubs), c.dual, got)
		}
	}
}

func TestFamilyDualByTheNumberOfClubs(t *testing.T) {
	for members := 1; members <= impl.MembersMax; members++ {
		for clubs := 0; clubs <= impl.ClubsMax; clubs++ {
			f := impl.Family{Members: members, Clubs: make([]int, clubs)}
			got := ofFamily(impl.FamilyDual(f))
			if clubs >= 1 && clubs <= impl.MembersMax {
				wantFamily(t, "FamilyDual", clubs, make([]int, members), got)
			} else {
				wantFailed(t, "FamilyDual", got)
			}
		}
	}
}

func TestFamilySetsThatAreNone(t *testing.T) {
	for members := 1; members <= impl.MembersMax; members++ {
		f := impl.Family{Members: members, Clubs: []int{1, 0}}
		for _, set := range []int{-1, -2, 1 << members, 1<<members + 1, 64, math.MinInt, math.MaxInt} {
			wantFailed(t, "FamilyMeet", ofFamily(impl.FamilyMeet(f, set)))
			wantFailed(t, "FamilyPut", ofFamily(impl.FamilyPut(f, set)))
		}
	}
}

func TestFamilySetsOfMembers(t *testing.T) {
	for members := 1; members <= impl.MembersMax; members++ {
		full := 1<<members - 1
		f := impl.Family{Members: members, Clubs: []int{full, 1}}
		for set := 0; set <= full; set++ {
			wantFamily(t, "FamilyMeet", members, []int{set, set % 2}, ofFamily(impl.FamilyMeet(f, set)))
			wantFamily(t, "FamilyPut", members, []int{full, 1, set}, ofFamily(impl.FamilyPut(f, set)))
		}
	}
}

func TestFamilyPutUpToTheLimit(t *testing.T) {
	f := impl.Family{Members: 2}
	for len(f.Clubs) < impl.ClubsMax {
		longer, ok := impl.FamilyPut(f, len(f.Clubs)%4)
		wantFamily(t, "FamilyPut", 2, append(slices.Clone(f.Clubs), len(f.Clubs)%4), ofFamily(longer, ok))
		f = impl.Family{Members: 2, Clubs: append(slices.Clone(f.Clubs), len(f.Clubs)%4)}
	}
	wantFailed(t, "FamilyPut", ofFamily(impl.FamilyPut(f, 0)))
	wantFailed(t, "FamilyPut", ofFamily(impl.FamilyPut(f, 3)))
	wantFailed(t, "FamilyPut", ofFamily(impl.FamilyPut(f, 4)))
}

func TestFamilyDrop(t *testing.T) {
	f := impl.Family{Members: 3, Clubs: []int{5, 1, 5, 0}}
	wantFamily(t, "FamilyDrop", 3, []int{1, 5, 0}, ofFamily(impl.FamilyDrop(f, 0)))
	wantFamily(t, "FamilyDrop", 3, []int{5, 5, 0}, ofFamily(impl.FamilyDrop(f, 1)))
	wantFamily(t, "FamilyDrop", 3, []int{5, 1, 0}, ofFamily(impl.FamilyDrop(f, 2)))
	wantFamily(t, "FamilyDrop", 3, []int{5, 1, 5}, ofFamily(impl.FamilyDrop(f, 3)))
	wantFamily(t, "FamilyDrop", 1, nil, ofFamily(impl.FamilyDrop(impl.Family{Members: 1, Clubs: []int{1}}, 0)))
}

func TestFamilyPlacesThatAreNone(t *testing.T) {
	for clubs := 0; clubs <= impl.ClubsMax; clubs++ {
		f := impl.Family{Members: 3, Clubs: make([]int, clubs, clubs+4)}
		for _, place := range []int{-1, clubs, clubs + 1, math.MinInt, math.MaxInt} {
			wantFailed(t, "FamilyDrop", ofFamily(impl.FamilyDrop(f, place)))
		}
	}
}

func TestFamilyNamed(t *testing.T) {
	f := impl.Family{Members: 3, Clubs: []int{1, 6, 0, 1}}
	wantFamily(t, "FamilyNamed", 3, []int{1, 6, 0, 1}, ofFamily(impl.FamilyNamed(f, []int{0, 1, 2})))
	wantFamily(t, "FamilyNamed", 3, []int{2, 5, 0, 2}, ofFamily(impl.FamilyNamed(f, []int{1, 2, 0})))
	wantFamily(t, "FamilyNamed", 3, []int{4, 3, 0, 4}, ofFamily(impl.FamilyNamed(f, []int{2, 0, 1})))
	wantFamily(t, "FamilyNamed", 2, nil, ofFamily(impl.FamilyNamed(impl.Family{Members: 2}, []int{1, 0})))
}

func TestFamilyListsThatAreNoNames(t *testing.T) {
	none := [][]int{
		nil, {0}, {0, 1}, {0, 1, 2, 3}, {0, 1, 2, 0}, {0, 0, 1}, {1, 1, 1}, {0, 2, 2},
		{1, 2, 3}, {0, 1, 3}, {0, 1, -1}, {-1, 0, 1}, {0, 1, 64}, {0, 1, math.MinInt}, {math.MaxInt, 0, 1},
	}
	for _, f := range []impl.Family{{Members: 3}, {Members: 3, Clubs: []int{0}}, {Members: 3, Clubs: []int{3, 5, 6}}} {
		for _, p := range none {
			wantFailed(t, "FamilyNamed", ofFamily(impl.FamilyNamed(f, p)))
		}
	}
	wantFailed(t, "FamilyNamed", ofFamily(impl.FamilyNamed(impl.Family{Members: 6}, []int{0, 1, 2, 3, 4, 6})))
}
