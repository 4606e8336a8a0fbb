package tests

import (
	"slices"
	"testing"

	"loop.example/clubsandmembers/impl"
)

// The promises of chapter 1, one test for each. Beside the promise, each test holds the result against one that is
// counted here in another way: a promise alone would hold for some wrong results, too.

func wantList(t *testing.T, what string, f impl.Family, got, want []int) {
	t.Helper()
	if !slices.Equal(got, want) {
		t.Errorf("%s of %v is %v, want %v", what, f, got, want)
	}
}

func wantClubs(t *testing.T, what string, f impl.Family, got impl.Family, clubs []int) {
	t.Helper()
	wantList(t, what, f, got.Clubs, clubs)
	if got.Members != f.Members {
		t.Errorf("%s of %v has %d members", what, f, got.Members)
	}
}

func wantNumber(t *testing.T, what string, f impl.Family, got, want int) {
	t.Helper()
	if got != want {
		t.Errorf("%s of %v is %d, want %d", what, f, got, want)
	}
}

func countedDegrees(f impl.Family) []int {
	degrees := make([]int, f.Members)
	for member := range degrees {
		for _, set := range f.Clubs {
			if isIn(set, member) {
				degrees[member]++
			}
		}
	}
	return degrees
}

func countedSizes(f impl.Family) []int {
	var sizes []int
	for _, set := range f.Clubs {
		size := 0
		for member := 0; member < f.Members; member++ {
			if isIn(set, member) {
				size++
			}
		}
		sizes = append(sizes, size)
	}
	return sizes
}

// chosenSets goes through all sets in ascending order, so that nothing needs to be sorted.
func chosenSets(f impl.Family, choose func(set int) bool) []int {
	var chosen []int
	for set := 0; set < 1<<f.Members; set++ {
		if hasNumber(f.Clubs, set) && choose(set) {
			chosen = append(chosen, set)
		}
	}
	return chosen
}

func countedLeast(f impl.Family) []int {
	return chosenSets(f, func(set int) bool {
		for _, other := range f.Clubs {
			if other != set && isPart(other, set) {
				return false
			}
		}
		return true
	})
}

func countedGreatest(f impl.Family) []int {
	return chosenSets(f, func(set int) bool {
		for _, other := range f.Clubs {
			if other != set && isPart(set, other) {
				return false
			}
		}
		return true
	})
}

// countedParts joins the marks of members instead of letting sets grow.
func countedParts(f impl.Family) int {
	marks := make([]int, f.Members)
	for member := range marks {
		marks[member] = member
	}
	for _, set := range f.Clubs {
		for v := range marks {
			for w := range marks {
				if isIn(set, v) && isIn(set, w) {
					changeMarks(marks, marks[v], marks[w])
				}
			}
		}
	}
	slices.Sort(marks)
	return len(slices.Compact(marks))
}

func changeMarks(marks []int, from, to int) {
	for member := range marks {
		if marks[member] == from {
			marks[member] = to
		}
	}
}

func membersWith(f impl.Family, choose func(member int) bool) int {
	set := 0
	for member := 0; member < f.Members; member++ {
		if choose(member) {
			set += 1 << member
		}
	}
	return set
}

func sortedClubs(f impl.Family) []int {
	return slices.Sorted(slices.Values(f.Clubs))
}

func TestPromise1SumOfDegreesAndSizes(t *testing.T) {
	for _, f := range samples() {
		degrees, sizes := told(t, f, impl.FamilyDegrees), told(t, f, impl.FamilySizes)
		wantNumber(t, "the sum of FamilyDegrees", f, sum(degrees), sum(sizes))
		wantList(t, "FamilyDegrees", f, degrees, countedDegrees(f))
		wantList(t, "FamilySizes", f, sizes, countedSizes(f))
	}
}

func TestPromise2DegreesAreSizesOfTheDual(t *testing.T) {
	for _, f := range samples() {
		dual, ok := impl.FamilyDual(f)
		if ok != (len(f.Clubs) >= 1 && len(f.Clubs) <= impl.MembersMax) {
			t.Errorf("FamilyDual of %v tells %v", f, ok)
		}
		if ok {
			wantList(t, "FamilySizes of FamilyDual", f, told(t, dual, impl.FamilySizes), told(t, f, impl.FamilyDegrees))
		}
	}
}

func TestPromise3SizesOfFamilyAndOther(t *testing.T) {
	for _, f := range samples() {
		sizes, others := told(t, f, impl.FamilySizes), told(t, told(t, f, impl.FamilyOther), impl.FamilySizes)
		if len(sizes) != len(f.Clubs) || len(others) != len(f.Clubs) {
			t.Fatalf("%v has %d sizes, and FamilyOther of it %d", f, len(sizes), len(others))
		}
		for place := range sizes {
			wantNumber(t, "the sum of both sizes", f, sizes[place]+others[place], f.Members)
		}
	}
}

func TestPromise4DualLeadsBack(t *testing.T) {
	for _, f := range samples() {
		dual, ok := impl.FamilyDual(f)
		if !ok {
			continue
		}
		wantNumber(t, "the number of members of FamilyDual", f, dual.Members, len(f.Clubs))
		wantClubs(t, "FamilyDual of FamilyDual", f, told(t, dual, impl.FamilyDual), f.Clubs)
		for member, set := range dual.Clubs {
			for place, club := range f.Clubs {
				if isIn(set, place) != isIn(club, member) {
					t.Errorf("FamilyDual of %v has the club %d for the member %d", f, set, member)
				}
			}
		}
	}
}

func TestPromise5MeetIsItsOwnAndNoGreater(t *testing.T) {
	for _, f := range samples() {
		for set := 0; set < 1<<f.Members; set += 1 + set/4 {
			meet := func(f impl.Family) (impl.Family, bool) { return impl.FamilyMeet(f, set) }
			met := told(t, f, meet)
			wantClubs(t, "FamilyMeet of FamilyMeet", f, told(t, met, meet), met.Clubs)
			sizes, before := told(t, met, impl.FamilySizes), told(t, f, impl.FamilySizes)
			for place, club := range met.Clubs {
				if sizes[place] > before[place] || club != membersWith(f, func(m int) bool { return isIn(f.Clubs[place], m) && isIn(set, m) }) {
					t.Errorf("FamilyMeet of %v and %d is %v", f, set, met)
				}
			}
		}
	}
}

func TestPromise6DropLeadsBackFromPut(t *testing.T) {
	for _, f := range samples() {
		for set := 0; set < 1<<f.Members; set += 1 + set/4 {
			longer, ok := impl.FamilyPut(f, set)
			if ok != (len(f.Clubs) < impl.ClubsMax) {
				t.Errorf("FamilyPut of %v and %d tells %v", f, set, ok)
			}
			if !ok {
				continue
			}
			wantClubs(t, "FamilyPut", f, longer, append(slices.Clone(f.Clubs), set))
			back := told(t, longer, func(f impl.Family) (impl.Family, bool) { return impl.FamilyDrop(f, len(f.Clubs)-1) })
			wantClubs(t, "FamilyDrop of FamilyPut", f, back, f.Clubs)
		}
	}
}

func TestPromise7PutOfTheDroppedClub(t *testing.T) {
	for _, f := range samples() {
		for place, club := range f.Clubs {
			shorter := told(t, f, func(f impl.Family) (impl.Family, bool) { return impl.FamilyDrop(f, place) })
			wantClubs(t, "FamilyDrop", f, shorter, slices.Delete(slices.Clone(f.Clubs), place, place+1))
			back := told(t, shorter, func(f impl.Family) (impl.Family, bool) { return impl.FamilyPut(f, club) })
			wantList(t, "FamilyPut of the club that was dropped, sorted,", f, sortedClubs(back), sortedClubs(f))
		}
	}
}

func TestPromise8SimpleAscends(t *testing.T) {
	for _, f := range samples() {
		simple := told(t, f, impl.FamilySimple)
		for place := 1; place < len(simple.Clubs); place++ {
			if simple.Clubs[place-1] >= simple.Clubs[place] {
				t.Errorf("FamilySimple of %v does not ascend: %v", f, simple)
			}
		}
		wantClubs(t, "FamilySimple of FamilySimple", f, told(t, simple, impl.FamilySimple), simple.Clubs)
		wantClubs(t, "FamilySimple", f, simple, chosenSets(f, func(int) bool { return true }))
		for _, set := range f.Clubs {
			if !hasNumber(simple.Clubs, set) {
				t.Errorf("FamilySimple of %v has not %d", f, set)
			}
		}
	}
}

func TestPromise9LeastClubs(t *testing.T) {
	for _, f := range samples() {
		least := told(t, f, impl.FamilyLeast)
		wantClubs(t, "FamilyLeast", f, least, countedLeast(f))
		for i, small := range least.Clubs {
			for k, great := range least.Clubs {
				if i != k && isPart(small, great) {
					t.Errorf("FamilyLeast of %v has %d and %d", f, small, great)
				}
			}
		}
		for _, set := range f.Clubs {
			if !slices.ContainsFunc(least.Clubs, func(small int) bool { return isPart(small, set) }) {
				t.Errorf("no club of FamilyLeast of %v is a part of %d", f, set)
			}
		}
	}
}

func TestPromise10GreatestClubs(t *testing.T) {
	for _, f := range samples() {
		greatest := told(t, f, impl.FamilyGreatest)
		wantClubs(t, "FamilyGreatest", f, greatest, countedGreatest(f))
		leastOfOther := told(t, told(t, f, impl.FamilyOther), impl.FamilyLeast)
		wantList(t, "FamilyOther of FamilyGreatest, sorted,", f, sortedClubs(told(t, greatest, impl.FamilyOther)), leastOfOther.Clubs)
	}
}

func TestPromise11OtherLeadsBack(t *testing.T) {
	for _, f := range samples() {
		other := told(t, f, impl.FamilyOther)
		wantClubs(t, "FamilyOther of FamilyOther", f, told(t, other, impl.FamilyOther), f.Clubs)
		full := 1<<f.Members - 1
		wantNumber(t, "FamilyAll of FamilyOther", f, told(t, other, impl.FamilyAll), full-told(t, f, impl.FamilyCommon))
		for place, set := range other.Clubs {
			wantNumber(t, "a club of FamilyOther", f, set, full-f.Clubs[place])
		}
	}
}

func TestPromise12AllByDegrees(t *testing.T) {
	for _, f := range samples() {
		degrees := told(t, f, impl.FamilyDegrees)
		wantNumber(t, "FamilyAll", f, told(t, f, impl.FamilyAll), membersWith(f, func(m int) bool { return degrees[m] != 0 }))
	}
}

func TestPromise13CommonByDegrees(t *testing.T) {
	for _, f := range samples() {
		degrees := told(t, f, impl.FamilyDegrees)
		wantNumber(t, "FamilyCommon", f, told(t, f, impl.FamilyCommon), membersWith(f, func(m int) bool { return degrees[m] == len(f.Clubs) }))
	}
}

func TestPromise14NamesKeepSizesAndDegrees(t *testing.T) {
	for _, f := range samples() {
		sizes, degrees := told(t, f, impl.FamilySizes), told(t, f, impl.FamilyDegrees)
		for _, p := range someNames(f.Members) {
			named := told(t, f, func(f impl.Family) (impl.Family, bool) { return impl.FamilyNamed(f, p) })
			wantList(t, "FamilySizes of FamilyNamed", f, told(t, named, impl.FamilySizes), sizes)
			after := told(t, named, impl.FamilyDegrees)
			for member, name := range p {
				wantNumber(t, "the degree of a name", f, after[name], degrees[member])
				for place, set := range f.Clubs {
					if isIn(set, member) != isIn(named.Clubs[place], name) {
						t.Errorf("FamilyNamed of %v by %v is %v", f, p, named)
					}
				}
			}
		}
	}
}

func TestPromise15PartsOfMembers(t *testing.T) {
	for _, f := range samples() {
		parts := told(t, f, impl.FamilyParts)
		wantNumber(t, "FamilyParts", f, parts, countedParts(f))
		if parts < 1 || parts > f.Members {
			t.Errorf("FamilyParts of %v is %d", f, parts)
		}
		if single := !slices.ContainsFunc(countedSizes(f), func(size int) bool { return size >= 2 }); single != (parts == f.Members) {
			t.Errorf("FamilyParts of %v is %d", f, parts)
		}
	}
}
