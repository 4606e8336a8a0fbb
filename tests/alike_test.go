package tests

import (
	"testing"

	"loop.example/clubsandmembers/impl"
)

func alikeCalls() []familyCall {
	return []familyCall{
		{"AlikeIn with itself", func(f impl.Family) outcome { return outcome{ok: impl.AlikeIn(f, f)} }},
		{"AlikeLeast", func(f impl.Family) outcome { return ofFamily(impl.AlikeLeast(f)) }},
		{"AlikeNames", func(f impl.Family) outcome { return ofList(impl.AlikeNames(f)) }},
		{"AlikeSame", func(f impl.Family) outcome { return ofNumber(impl.AlikeSame(f)) }},
		{"AlikeOrbits", func(f impl.Family) outcome { return ofList(impl.AlikeOrbits(f)) }},
	}
}

// alikeCase has what each function returns for one family.
type alikeCase struct {
	family        impl.Family
	least, names  []int
	same          int
	orbits        []int
	alike, unlike []int // the clubs of two families of as many members
}

func alikeCases() []alikeCase {
	return []alikeCase{
		{
			family: impl.Family{Members: 3, Clubs: []int{3, 5, 6}}, least: []int{3, 5, 6}, names: []int{0, 1, 2},
			same: 6, orbits: []int{7}, alike: []int{6, 5, 3}, unlike: []int{3, 5, 5},
		},
		{ // one club of the last member
			family: impl.Family{Members: 4, Clubs: []int{8}}, least: []int{1}, names: []int{1, 2, 3, 0},
			same: 6, orbits: []int{7, 8}, alike: []int{2}, unlike: []int{3},
		},
		{ // out of order, with the member 1 in both
			family: impl.Family{Members: 3, Clubs: []int{6, 3}}, least: []int{3, 5}, names: []int{1, 0, 2},
			same: 2, orbits: []int{5, 2}, alike: []int{5, 6}, unlike: []int{3, 3},
		},
		{ // orbits in the order of their least members, not of their numbers
			family: impl.Family{Members: 4, Clubs: []int{9}}, least: []int{3}, names: []int{0, 2, 3, 1},
			same: 4, orbits: []int{9, 6}, alike: []int{6}, unlike: []int{8},
		},
		{ // equal clubs: if each set counted once, two members could be exchanged
			family: impl.Family{Members: 3, Clubs: []int{5, 3, 5}}, least: []int{3, 3, 5}, names: []int{0, 2, 1},
			same: 1, orbits: []int{1, 2, 4}, alike: []int{3, 5, 3}, unlike: []int{3, 5, 6},
		},
		{ // as many equal clubs of each of two members
			family: impl.Family{Members: 2, Clubs: []int{2, 1, 1, 2}}, least: []int{1, 1, 2, 2}, names: []int{0, 1},
			same: 2, orbits: []int{3}, alike: []int{1, 2, 1, 2}, unlike: []int{1, 2, 2, 2},
		},
		{ // the same sets, but not as often
			family: impl.Family{Members: 3, Clubs: []int{1, 6, 6}}, least: []int{1, 6, 6}, names: []int{0, 1, 2},
			same: 2, orbits: []int{1, 6}, alike: []int{3, 4, 3}, unlike: []int{1, 1, 6},
		},
		{ // full clubs, whatever the names are
			family: impl.Family{Members: 3, Clubs: []int{7, 7, 4}}, least: []int{1, 7, 7}, names: []int{1, 2, 0},
			same: 2, orbits: []int{3, 4}, alike: []int{2, 7, 7}, unlike: []int{7, 4, 4},
		},
		{ // no clubs
			family: impl.Family{Members: 4}, least: nil, names: []int{0, 1, 2, 3},
			same: 24, orbits: []int{15}, alike: nil, unlike: []int{0},
		},
		{ // no clubs, one member
			family: impl.Family{Members: 1, Clubs: []int{}}, least: nil, names: []int{0},
			same: 1, orbits: []int{1}, alike: nil, unlike: []int{0},
		},
		{ // an empty club
			family: impl.Family{Members: 2, Clubs: []int{0}}, least: []int{0}, names: []int{0, 1},
			same: 2, orbits: []int{3}, alike: []int{0}, unlike: []int{0, 0},
		},
		{ // empty clubs beside others
			family: impl.Family{Members: 3, Clubs: []int{4, 0, 0}}, least: []int{0, 0, 1}, names: []int{1, 2, 0},
			same: 2, orbits: []int{3, 4}, alike: []int{0, 2, 0}, unlike: []int{0, 2, 2},
		},
		{ // one round of six members
			family: impl.Family{Members: 6, Clubs: []int{3, 6, 12, 24, 48, 33}}, least: []int{3, 5, 10, 20, 40, 48}, names: []int{0, 1, 3, 5, 4, 2},
			same: 12, orbits: []int{63}, alike: []int{48, 40, 20, 10, 5, 3}, unlike: []int{3, 5, 6, 24, 40, 48},
		},
		{ // both limits
			family: impl.Family{Members: 6, Clubs: []int{63, 32, 33, 48, 32, 63, 36, 40}}, least: []int{1, 1, 3, 5, 9, 17, 63, 63}, names: []int{1, 5, 2, 3, 4, 0},
			same: 24, orbits: []int{29, 2, 32}, alike: []int{63, 63, 1, 1, 3, 9, 17, 33}, unlike: []int{63, 63, 1, 1, 3, 9, 9, 33},
		},
		{ // both limits, all clubs empty
			family: impl.Family{Members: 6, Clubs: make([]int, 8)}, least: make([]int, 8), names: []int{0, 1, 2, 3, 4, 5},
			same: 720, orbits: []int{63}, alike: make([]int, 8), unlike: []int{0, 0, 0, 0, 0, 0, 0, 1},
		},
	}
}

func TestAlikeLeast(t *testing.T) {
	for _, c := range alikeCases() {
		wantFamily(t, "AlikeLeast", c.family.Members, c.least, ofFamily(impl.AlikeLeast(c.family)))
	}
}

func TestAlikeNames(t *testing.T) {
	for _, c := range alikeCases() {
		wantList(t, "AlikeNames", c.family, told(t, c.family, impl.AlikeNames), c.names)
	}
}

func TestAlikeSame(t *testing.T) {
	for _, c := range alikeCases() {
		wantNumber(t, "AlikeSame", c.family, told(t, c.family, impl.AlikeSame), c.same)
	}
}

func TestAlikeOrbits(t *testing.T) {
	for _, c := range alikeCases() {
		wantList(t, "AlikeOrbits", c.family, told(t, c.family, impl.AlikeOrbits), c.orbits)
	}
}

func wantAlike(t *testing.T, f, g impl.Family, want bool) {
	t.Helper()
	if impl.AlikeIn(f, g) != want {
		t.Errorf("AlikeIn of %v and %v is %v", f, g, !want)
	}
	if impl.AlikeIn(g, f) != want {
		t.Errorf("AlikeIn of %v and %v is %v", g, f, !want)
	}
}

func TestAlikeIn(t *testing.T) {
	for _, c := range alikeCases() {
		f := c.family
		wantAlike(t, f, f, true)
		wantAlike(t, f, impl.Family{Members: f.Members, Clubs: c.least}, true)
		wantAlike(t, f, impl.Family{Members: f.Members, Clubs: c.alike}, true)
		wantAlike(t, f, impl.Family{Members: f.Members, Clubs: c.unlike}, false)
	}
}

// Equal sizes and degrees, equal sets or equal numbers alone make no families alike.
func TestAlikeInDoesNotHold(t *testing.T) {
	pairs := [][2]impl.Family{
		{{Members: 6, Clubs: []int{3, 6, 12, 24, 48, 33}}, {Members: 6, Clubs: []int{3, 5, 6, 24, 40, 48}}},
		{{Members: 3, Clubs: []int{1, 1, 6}}, {Members: 3, Clubs: []int{1, 6, 6}}},
		{{Members: 3, Clubs: []int{1, 6}}, {Members: 3, Clubs: []int{1, 6, 6}}},
		{{Members: 4, Clubs: []int{3, 3, 12, 12}}, {Members: 4, Clubs: []int{3, 6, 12, 9}}},
		{{Members: 2}, {Members: 2, Clubs: []int{0}}},
		{{Members: 2, Clubs: []int{0}}, {Members: 2, Clubs: []int{0, 0}}},
		{{Members: 2, Clubs: []int{0, 0, 1}}, {Members: 2, Clubs: []int{0, 1}}},
		{{Members: 2, Clubs: []int{0, 0, 1}}, {Members: 2, Clubs: []int{0, 1, 1}}},
		{{Members: 6, Clubs: make([]int, 8)}, {Members: 6, Clubs: make([]int, 7)}},
		{{Members: 1}, {Members: 2}},
		{{Members: 5}, {Members: 6, Clubs: []int{}}},
		{{Members: 2, Clubs: []int{1}}, {Members: 3, Clubs: []int{1}}},
		{{Members: 2, Clubs: []int{3, 3}}, {Members: 6, Clubs: []int{3, 3}}},
		{{Members: 5, Clubs: []int{0}}, {Members: 6, Clubs: []int{0}}},
	}
	for _, p := range pairs {
		wantAlike(t, p[0], p[1], false)
	}
}

// Two families that are none are not alike either, not even if they are the same.
func TestAlikeInOfNoFamilies(t *testing.T) {
	for _, none := range noFamilies() {
		wantAlike(t, none, none, false)
		wantAlike(t, none, impl.Family{Members: 3, Clubs: []int{1, 2}}, false)
		wantAlike(t, none, impl.Family{Members: none.Members}, false)
		wantAlike(t, none, impl.Family{}, false)
	}
}

func TestAlikeInLeavesArgumentsAlone(t *testing.T) {
	wantBothUntouched(t, "AlikeIn", func(f, g impl.Family) { impl.AlikeIn(f, g) })
}
