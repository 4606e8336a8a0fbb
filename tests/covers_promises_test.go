package tests

import (
	"slices"
	"testing"

	"loop.example/clubsandmembers/impl"
)

// The promises of chapter 4, one test for each, held against covers that are found here member by member.

// coverSamples has own families, too: among the samples there are few.
func coverSamples() []impl.Family {
	all := samples()
	for _, c := range everyCoverCase() {
		all = append(all, c.family)
	}
	return all
}

func haveCommon(set, other int) bool {
	for member := range impl.MembersMax {
		if isIn(set, member) && isIn(other, member) {
			return true
		}
	}
	return false
}

func countedMembers(set int) int {
	many := 0
	for member := range impl.MembersMax {
		if isIn(set, member) {
			many++
		}
	}
	return many
}

func isCover(f impl.Family, set int) bool {
	return !slices.ContainsFunc(f.Clubs, func(club int) bool { return !haveCommon(club, set) })
}

// triedCovers has all covers, and those that are no covers without any one of their members.
func triedCovers(f impl.Family) (all, least []int) {
	for set := range 1 << f.Members {
		if !isCover(f, set) {
			continue
		}
		all = append(all, set)
		needed := true
		for member := range f.Members {
			needed = needed && !(isIn(set, member) && isCover(f, set-1<<member))
		}
		if needed {
			least = append(least, set)
		}
	}
	return all, least
}

func hasEmptyClub(f impl.Family) bool {
	return hasNumber(f.Clubs, 0)
}

func TestPromise27CoversHaveLeastOnes(t *testing.T) {
	for _, f := range coverSamples() {
		all, _ := triedCovers(f)
		least := told(t, f, impl.CoverSets)
		for set := range 1 << f.Members {
			is := impl.CoverIn(f, set)
			if is != hasNumber(all, set) {
				t.Errorf("CoverIn of %v and %d is %v", f, set, is)
			}
			if is != slices.ContainsFunc(least, func(part int) bool { return isPart(part, set) }) {
				t.Errorf("CoverIn of %v and %d is %v, and CoverSets are %v", f, set, is, least)
			}
		}
		if impl.CoverIn(f, everyone(f)) != (len(all) > 0) {
			t.Errorf("CoverIn of %v and all members is %v, and there are %d covers", f, len(all) == 0, len(all))
		}
	}
}

func TestPromise28CoversBySetsAndByClubs(t *testing.T) {
	for _, f := range coverSamples() {
		_, least := triedCovers(f)
		covers := told(t, f, impl.CoverSets)
		wantList(t, "CoverSets", f, covers, least)
		wantList(t, "CoverClubs", f, told(t, f, impl.CoverClubs), covers)
		if (len(covers) == 0) != hasEmptyClub(f) {
			t.Errorf("CoverSets of %v are %v", f, covers)
		}
	}
}

func TestPromise29CoversByClubsAndBySplitting(t *testing.T) {
	for _, f := range coverSamples() {
		_, least := triedCovers(f)
		split := told(t, f, impl.CoverSplit)
		wantList(t, "CoverSplit", f, split, told(t, f, impl.CoverClubs))
		wantList(t, "CoverSplit", f, split, least)
	}
}

func TestPromise30CoversOfCovers(t *testing.T) {
	many := 0
	for _, f := range coverSamples() {
		covers := impl.Family{Members: f.Members, Clubs: told(t, f, impl.CoverSplit)}
		if len(covers.Clubs) > impl.ClubsMax {
			many++
			wantFailed(t, "CoverSets of too many clubs", ofList(impl.CoverSets(covers)))
			continue
		}
		back := told(t, covers, impl.CoverSets)
		wantList(t, "CoverSets of the least covers", f, back, countedLeast(f))
		wantList(t, "CoverSets of the least covers", f, back, told(t, f, impl.FamilyLeast).Clubs)
	}
	if many == 0 {
		t.Errorf("no sample has more least covers than %d", impl.ClubsMax)
	}
}

func TestPromise31SmallCovers(t *testing.T) {
	for _, f := range coverSamples() {
		all, _ := triedCovers(f)
		small, ok := impl.CoverSmall(f)
		if ok == hasEmptyClub(f) || !ok && small != 0 {
			t.Errorf("CoverSmall of %v is %d, %v", f, small, ok)
		}
		if !ok {
			continue
		}
		want := f.Members
		for _, set := range all {
			want = min(want, countedMembers(set))
		}
		wantNumber(t, "CoverSmall", f, small, want)
		greatest := slices.Max(append(countedSizes(f), 0))
		if pack := told(t, f, impl.CoverPack); small < pack || small > pack*greatest {
			t.Errorf("CoverSmall of %v is %d, CoverPack %d, and the greatest size %d", f, small, pack, greatest)
		}
	}
}

// triedPack takes the first club or leaves it.
func triedPack(clubs []int) int {
	if len(clubs) == 0 {
		return 0
	}
	var apart []int
	for _, club := range clubs[1:] {
		if !haveCommon(club, clubs[0]) {
			apart = append(apart, club)
		}
	}
	return max(triedPack(clubs[1:]), 1+triedPack(apart))
}

func TestPromise32Packs(t *testing.T) {
	for _, f := range coverSamples() {
		pack := told(t, f, impl.CoverPack)
		wantNumber(t, "CoverPack", f, pack, triedPack(f.Clubs))
		if pack > len(f.Clubs) || (pack == 0) != (len(f.Clubs) == 0) {
			t.Errorf("CoverPack of %v is %d", f, pack)
		}
		named, ok := impl.FamilyNamed(f, backwards(f.Members))
		if !ok {
			t.Fatalf("FamilyNamed of %v fails", f)
		}
		wantNumber(t, "CoverPack of it backwards", f, told(t, named, impl.CoverPack), pack)
	}
}

// triedGreedy counts anew, for each member it takes, in how many clubs that are left each member is.
func triedGreedy(f impl.Family) int {
	taken := 0
	for left := slices.Clone(f.Clubs); len(left) > 0; {
		degrees := countedDegrees(impl.Family{Members: f.Members, Clubs: left})
		best := 0
		for member, degree := range degrees {
			if degree > degrees[best] {
				best = member
			}
		}
		taken += 1 << best
		left = slices.DeleteFunc(left, func(club int) bool { return isIn(club, best) })
	}
	return taken
}

func TestPromise33GreedyCovers(t *testing.T) {
	for _, f := range coverSamples() {
		greedy, ok := impl.CoverGreedy(f)
		if ok == hasEmptyClub(f) || !ok && greedy != 0 {
			t.Errorf("CoverGreedy of %v is %d, %v", f, greedy, ok)
		}
		if !ok {
			continue
		}
		wantNumber(t, "CoverGreedy", f, greedy, triedGreedy(f))
		small, size := told(t, f, impl.CoverSmall), countedMembers(greedy)
		if !impl.CoverIn(f, greedy) || size < small || size > len(f.Clubs) {
			t.Errorf("CoverGreedy of %v is %d, and CoverSmall %d", f, greedy, small)
		}
	}
}

func TestPromise34OwnFamilies(t *testing.T) {
	many := 0
	for _, f := range coverSamples() {
		all, least := triedCovers(f)
		wantNumber(t, "CoverMany", f, told(t, f, impl.CoverMany), len(all))
		own := impl.CoverOwn(f)
		if own != slices.Equal(least, countedLeast(f)) {
			t.Errorf("CoverOwn of %v is %v", f, own)
		}
		if !own {
			continue
		}
		many++
		wantNumber(t, "twice CoverMany of own", f, 2*len(all), 1<<f.Members)
		for _, club := range f.Clubs {
			if slices.ContainsFunc(f.Clubs, func(other int) bool { return !haveCommon(club, other) }) {
				t.Errorf("CoverOwn of %v holds, but not each two clubs have a common member", f)
			}
		}
	}
	if many == 0 {
		t.Errorf("no sample is own")
	}
}

// triedFree has the sets with no club as a part, that have one with any member more.
func triedFree(f impl.Family) []int {
	hasClub := func(set int) bool {
		return slices.ContainsFunc(f.Clubs, func(club int) bool { return isPart(club, set) })
	}
	var free []int
	for set := range 1 << f.Members {
		greatest := !hasClub(set)
		for member := range f.Members {
			greatest = greatest && (isIn(set, member) || hasClub(set+1<<member))
		}
		if greatest {
			free = append(free, set)
		}
	}
	return free
}

func TestPromise35FreeSets(t *testing.T) {
	for _, f := range coverSamples() {
		free := told(t, f, impl.CoverFree)
		wantList(t, "CoverFree", f, free, triedFree(f))
		covers := told(t, f, impl.CoverSets)
		wantNumber(t, "the number of CoverFree", f, len(free), len(covers))
		for _, set := range free {
			if slices.ContainsFunc(f.Clubs, func(club int) bool { return isPart(club, set) }) {
				t.Errorf("CoverFree of %v has %d, which has a club as a part", f, set)
			}
			if !hasNumber(covers, everyone(f)-set) {
				t.Errorf("CoverFree of %v has %d, and all other members are no least cover", f, set)
			}
		}
	}
}
