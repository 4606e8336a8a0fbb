package tests

import (
	"slices"
	"testing"

	"loop.example/clubsandmembers/impl"
)

// The promises of chapter 8, one test for each, held against clubs that are tried here two by two, and orders one by one.

func meetSamples() []impl.Family {
	all := earSamples()
	for _, c := range everyMeetCase() {
		all = append(all, c.family)
	}
	return all
}

// withDuals has just the samples of which a dual is told.
func withDuals(t *testing.T, look func(f, dual impl.Family)) {
	t.Helper()
	many := 0
	for _, f := range meetSamples() {
		dual, ok := impl.FamilyDual(f)
		wantAnswer(t, "the success of FamilyDual", f, ok, len(f.Clubs) >= 1 && len(f.Clubs) <= impl.MembersMax)
		if ok {
			look(f, dual)
			many++
		}
	}
	if many == 0 {
		t.Errorf("no sample has a dual")
	}
}

// wantBoth makes sure that a promise about those that are something is not told of all samples, or of none.
func wantBoth(t *testing.T, what string, are, all int) {
	t.Helper()
	if are < 100 || are > all-100 {
		t.Errorf("%s: %d of %d samples", what, are, all)
	}
}

// triedSets has, for each number below the last one, the set of the other ones with which it is beside.
func triedSets(last int, beside func(v, w int) bool) []int {
	made := make([]int, last)
	for v := range last {
		for w := range last {
			if v != w && beside(v, w) {
				made[v] += 1 << w
			}
		}
	}
	return made
}

func triedMates(f impl.Family) []int {
	return triedSets(f.Members, func(v, w int) bool { return arePair(f, v, w) })
}

func triedMeetings(f impl.Family) []int {
	return triedSets(len(f.Clubs), func(i, k int) bool { return haveCommon(f.Clubs[i], f.Clubs[k]) })
}

func areMeeting(clubs []int) bool {
	for _, set := range clubs {
		for _, other := range clubs {
			if !haveCommon(set, other) {
				return false
			}
		}
	}
	return true
}

// chosenClubs has the clubs at the places of each set of them.
func chosenClubs(f impl.Family) [][]int {
	made := [][]int{nil}
	for _, set := range f.Clubs {
		for _, clubs := range made {
			made = append(made, append(slices.Clone(clubs), set))
		}
	}
	return made
}

func commonOf(f impl.Family, clubs []int) int {
	return membersWith(f, func(member int) bool {
		return !slices.ContainsFunc(clubs, func(set int) bool { return !isIn(set, member) })
	})
}

func triedHelly(f impl.Family) bool {
	for _, clubs := range chosenClubs(f) {
		if areMeeting(clubs) && commonOf(f, clubs) == 0 {
			return false
		}
	}
	return true
}

// triedMost takes the first club, if it is not empty, or leaves it.
func triedMost(clubs []int) int {
	if len(clubs) == 0 {
		return 0
	}
	left := triedMost(clubs[1:])
	if clubs[0] == 0 {
		return left
	}
	var meeting []int
	for _, set := range clubs[1:] {
		if haveCommon(set, clubs[0]) {
			meeting = append(meeting, set)
		}
	}
	return max(left, 1+triedMost(meeting))
}

// standBeside tells whether the members of a club have none of the others between them.
func standBeside(f impl.Family, set int, order []int) bool {
	members := listed(f, set)
	first := slices.IndexFunc(order, func(member int) bool { return hasNumber(members, member) })
	if first < 0 {
		return len(members) == 0
	}
	for _, member := range order[first : first+len(members)] {
		if !hasNumber(members, member) {
			return false
		}
	}
	return true
}

func isEven(f impl.Family, order []int) bool {
	return !slices.ContainsFunc(f.Clubs, func(set int) bool { return !standBeside(f, set, order) })
}

// triedClose asks of each set whether it is just what the clubs that have it as a part have in common.
func triedClose(f impl.Family) []int {
	var closed []int
	for set := range 1 << f.Members {
		var great []int
		for _, club := range f.Clubs {
			if isPart(set, club) {
				great = append(great, club)
			}
		}
		if len(great) > 0 && commonOf(f, great) == set {
			closed = append(closed, set)
		}
	}
	return closed
}

func TestPromise56FullFamilies(t *testing.T) {
	all := meetSamples()
	full, byPairs := 0, 0
	for _, f := range all {
		is := impl.MeetFull(f)
		wantAnswer(t, "MeetFull", f, is, triedFull(f))
		if is {
			full++
		}
		if !impl.EarByPairs(f) {
			continue
		}
		byPairs++
		wantAnswer(t, "MeetFull by pairs", f, is, true)
		wantAnswer(t, "EarFalls by pairs", f, impl.EarFalls(f), true)
	}
	wantBoth(t, "full", full, len(all))
	if byPairs == 0 || byPairs == full {
		t.Errorf("%d samples are full, and %d fall apart", full, byPairs)
	}
}

func TestPromise57NestedFamilies(t *testing.T) {
	nested := 0
	for _, f := range meetSamples() {
		if !impl.EarNested(f) {
			continue
		}
		nested++
		_, ok := impl.MeetOrder(f)
		wantAnswer(t, "EarFalls of a nested one", f, impl.EarFalls(f), true)
		wantAnswer(t, "MeetHelly of a nested one", f, impl.MeetHelly(f), true)
		wantAnswer(t, "the success of MeetOrder of a nested one", f, ok, true)
	}
	if nested == 0 {
		t.Errorf("no sample is nested")
	}
}

func TestPromise58Pairs(t *testing.T) {
	for _, f := range meetSamples() {
		pairs := told(t, f, impl.MeetPairs)
		wantList(t, "MeetPairs", f, pairs, triedMates(f))
		for member, set := range pairs {
			if isIn(set, member) {
				t.Errorf("MeetPairs of %v has %d as its own", f, member)
			}
		}
	}
	withDuals(t, func(f, dual impl.Family) {
		wantList(t, "MeetPairs", f, told(t, f, impl.MeetPairs), told(t, dual, impl.MeetClubs))
	})
}

func TestPromise59ClubsThatMeet(t *testing.T) {
	great := 0
	for _, f := range meetSamples() {
		meetings := told(t, f, impl.MeetClubs)
		wantList(t, "MeetClubs", f, meetings, triedMeetings(f))
		for i, set := range meetings {
			for k, other := range meetings {
				is := i != k && haveCommon(f.Clubs[i], f.Clubs[k])
				if isIn(set, k) != is || isIn(other, i) != is {
					t.Errorf("MeetClubs of %v is %v", f, meetings)
				}
			}
			if set >= 1<<impl.MembersMax {
				great++
			}
		}
	}
	if great == 0 {
		t.Errorf("no sample has clubs that meet behind the limit of members")
	}
}

func TestPromise60OneForAll(t *testing.T) {
	all := meetSamples()
	helly := 0
	for _, f := range all {
		is := impl.MeetHelly(f)
		wantAnswer(t, "MeetHelly", f, is, triedHelly(f))
		if is {
			helly++
			wantNumber(t, "MeetMost with one for all", f, told(t, f, impl.MeetMost), told(t, f, impl.MeetStars))
		}
	}
	wantBoth(t, "one for all", helly, len(all))
	withDuals(t, func(f, dual impl.Family) {
		if impl.MeetHelly(f) {
			wantAnswer(t, "MeetFull of the dual", f, impl.MeetFull(dual), true)
		}
	})
}

func TestPromise61DualsOfFullFamilies(t *testing.T) {
	full := 0
	withDuals(t, func(f, dual impl.Family) {
		if impl.MeetFull(f) {
			full++
			wantAnswer(t, "MeetHelly of the dual", f, impl.MeetHelly(dual), true)
		}
	})
	if full == 0 {
		t.Errorf("no sample with a dual is full")
	}
}

func TestPromise62EvenOrders(t *testing.T) {
	all := meetSamples()
	even := 0
	for _, f := range all {
		order, ok := impl.MeetOrder(f)
		first, is := firstThat(manyNames(f.Members), func(order []int) bool { return isEven(f, order) })
		wantAnswer(t, "the success of MeetOrder", f, ok, is)
		wantList(t, "MeetOrder", f, order, first)
		if !ok {
			continue
		}
		even++
		wantAnswer(t, "MeetHelly of an even one", f, impl.MeetHelly(f), true)
		wantAnswer(t, "that each club stands beside itself", f, isEven(f, order), true)
	}
	wantBoth(t, "an even order", even, len(all))
}

func TestPromise63ClubsOfWhichEachTwoMeet(t *testing.T) {
	for _, f := range meetSamples() {
		most := told(t, f, impl.MeetMost)
		wantNumber(t, "MeetMost", f, most, triedMost(f.Clubs))
		if stars := told(t, f, impl.MeetStars); most < stars {
			t.Errorf("MeetMost of %v is %d, less than MeetStars, %d", f, most, stars)
		}
		if pack := told(t, f, impl.CoverPack); !hasEmptyClub(f) && most+pack > len(f.Clubs)+1 {
			t.Errorf("MeetMost of %v is %d, and CoverPack %d", f, most, pack)
		}
	}
}

func TestPromise64Stars(t *testing.T) {
	for _, f := range meetSamples() {
		stars := told(t, f, impl.MeetStars)
		wantNumber(t, "MeetStars", f, stars, slices.Max(countedDegrees(f)))
		wantNumber(t, "MeetStars", f, stars, slices.Max(told(t, f, impl.FamilyDegrees)))
		if stars*f.Members < sum(countedSizes(f)) {
			t.Errorf("MeetStars of %v is %d", f, stars)
		}
	}
}

func TestPromise65ClosedFamilies(t *testing.T) {
	all := meetSamples()
	closes := 0
	for _, f := range all {
		want := triedClose(f)
		closed, ok := impl.MeetClose(f)
		wantAnswer(t, "the success of MeetClose", f, ok, len(want) <= impl.ClubsMax)
		if !ok {
			wantFailed(t, "MeetClose of too many", ofFamily(closed, ok))
			continue
		}
		closes++
		wantClubs(t, "MeetClose", f, closed, want)
		wantClubs(t, "MeetClose of it", f, told(t, closed, impl.MeetClose), closed.Clubs)
		for _, set := range told(t, f, impl.FamilySimple).Clubs {
			wantAnswer(t, "that MeetClose has each club", f, hasNumber(closed.Clubs, set), true)
		}
		wantNumber(t, "FamilyCommon of MeetClose", f, told(t, closed, impl.FamilyCommon), told(t, f, impl.FamilyCommon))
	}
	wantBoth(t, "closed", closes, len(all))
}
