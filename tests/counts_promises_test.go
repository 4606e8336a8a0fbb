package tests

import (
	"slices"
	"strconv"
	"testing"

	"loop.example/clubsandmembers/impl"
)

// The promises of chapter 10, one test for each, held against great sets that are tried here member by member.

func countSamples() []impl.Family {
	all := earSamples()
	for _, c := range everyCountCase() {
		all = append(all, c.family)
	}
	return all
}

func isGreat(f impl.Family, set int) bool {
	return slices.ContainsFunc(f.Clubs, func(club int) bool { return isPart(club, set) })
}

// triedSizes has the numbers of great sets by their members.
func triedSizes(f impl.Family) []int {
	made := make([]int, f.Members+1)
	for set := range 1 << f.Members {
		if isGreat(f, set) {
			made[countedMembers(set)]++
		}
	}
	return made
}

func triedPivots(f impl.Family) []int {
	made := make([]int, f.Members)
	for member := range made {
		for set := range 1 << f.Members {
			if !isIn(set, member) && !isGreat(f, set) && isGreat(f, set+1<<member) {
				made[member]++
			}
		}
	}
	return made
}

// triedPartly counts, for each set of places, the sets that have all clubs there as parts: none of them is weighed by its members.
func triedPartly(f impl.Family, k int) int {
	all := 0
	for places := 1; places < 1<<len(f.Clubs); places++ {
		many, together := countedPlaces(places), togetherOf(f, places)
		if many > k {
			continue
		}
		for set := range 1 << f.Members {
			if isPart(together, set) {
				all += 2*(many%2) - 1
			}
		}
	}
	return all
}

func TestPromise77GreatSetsAndCovers(t *testing.T) {
	for _, f := range countSamples() {
		great := told(t, f, impl.CountTry)
		wantNumber(t, "CountTry", f, great, sum(triedSizes(f)))
		wantNumber(t, "CountTry with CoverMany", f, great+told(t, f, impl.CoverMany), 1<<f.Members)
	}
}

func TestPromise78Turns(t *testing.T) {
	fewer := 0
	for _, f := range countSamples() {
		turns := told(t, f, impl.CountTurns)
		wantNumber(t, "CountTurns", f, turns, sum(triedSizes(f)))
		wantNumber(t, "CountTurns", f, turns, told(t, f, impl.CountTry))
		least := told(t, f, impl.FamilyLeast)
		wantNumber(t, "CountTurns of FamilyLeast", f, told(t, least, impl.CountTurns), turns)
		if len(least.Clubs) < len(f.Clubs) {
			fewer++
		}
	}
	wantBoth(t, "other clubs than the least ones", fewer, len(countSamples()))
}

func TestPromise79Cuts(t *testing.T) {
	for _, f := range countSamples() {
		cut := told(t, f, impl.CountCut)
		wantNumber(t, "CountCut", f, cut, sum(triedSizes(f)))
		wantNumber(t, "CountCut", f, cut, told(t, f, impl.CountTurns))
		if cut < 0 || cut > 1<<f.Members {
			t.Errorf("CountCut of %v is %d", f, cut)
		}
	}
}

func TestPromise80CutsOfNamed(t *testing.T) {
	nothing := 0
	for _, f := range countSamples() {
		cut := told(t, f, impl.CountCut)
		named, ok := impl.FamilyNamed(f, backwards(f.Members))
		if !ok {
			t.Fatalf("FamilyNamed of %v fails", f)
		}
		wantNumber(t, "CountCut of it backwards", f, told(t, named, impl.CountCut), cut)
		wantAnswer(t, "that CountCut is 0", f, cut == 0, len(f.Clubs) == 0)
		if cut == 0 {
			nothing++
		}
	}
	if nothing == 0 {
		t.Errorf("no sample is without great sets")
	}
}

func TestPromise81Sizes(t *testing.T) {
	equal, all := 0, 0
	for _, f := range countSamples() {
		sizes := told(t, f, impl.CountSizes)
		wantList(t, "CountSizes", f, sizes, triedSizes(f))
		wantNumber(t, "the sum of CountSizes", f, sum(sizes), told(t, f, impl.CountTry))
		for k := 1; k <= f.Members; k++ {
			more, less := k*sizes[k], (f.Members+1-k)*sizes[k-1]
			if more < less {
				t.Errorf("CountSizes of %v are %v", f, sizes)
			}
			all++
			if more == less {
				equal++
			}
		}
	}
	wantBoth(t, "numbers of great sets that grow as little as they may", equal, all)
}

func TestPromise82PartlyCounted(t *testing.T) {
	apart, all := 0, 0
	for _, f := range countSamples() {
		great := told(t, f, impl.CountTry)
		for k := 1; k <= impl.ClubsMax; k++ {
			partly := told(t, f, countPartly(k))
			wantNumber(t, "CountPartly by "+strconv.Itoa(k), f, partly, triedPartly(f, k))
			wrong := partly < great
			if k%2 == 0 {
				wrong = partly > great
			}
			if wrong || k >= len(f.Clubs) && partly != great {
				t.Errorf("CountPartly of %v by %d is %d, and CountTry %d", f, k, partly, great)
			}
			all++
			if partly != great {
				apart++
			}
		}
		wantFailed(t, "CountPartly by 0", ofNumber(impl.CountPartly(f, 0)))
		wantFailed(t, "CountPartly by too many", ofNumber(impl.CountPartly(f, impl.ClubsMax+1)))
	}
	wantBoth(t, "what is counted partly, not wholly", apart, all)
}

func TestPromise83PivotsOfNoClub(t *testing.T) {
	nothing, all := 0, 0
	for _, f := range countSamples() {
		pivots := told(t, f, impl.CountPivots)
		wantList(t, "CountPivots", f, pivots, triedPivots(f))
		degrees := countedDegrees(told(t, f, impl.FamilyLeast))
		for member, many := range pivots {
			wantAnswer(t, "that one of CountPivots is 0", f, many == 0, degrees[member] == 0)
			all++
			if many == 0 {
				nothing++
			}
		}
	}
	wantBoth(t, "members with no pivots", nothing, all)
}

func TestPromise84PivotsOfCovers(t *testing.T) {
	many := 0
	for _, f := range countSamples() {
		covers := impl.Family{Members: f.Members, Clubs: told(t, f, impl.CoverSets)}
		if len(covers.Clubs) > impl.ClubsMax {
			many++
			wantFailed(t, "CountPivots of too many clubs", ofList(impl.CountPivots(covers)))
			continue
		}
		wantList(t, "CountPivots of the least covers", f, told(t, covers, impl.CountPivots), told(t, f, impl.CountPivots))
	}
	if many == 0 {
		t.Errorf("no sample has more least covers than %d", impl.ClubsMax)
	}
}

// oddTogether adds sets of places whose clubs have all members together, and takes off those that are odd where the members are even, or the other way round.
func oddTogether(f impl.Family) int {
	all := 0
	for places := range 1 << len(f.Clubs) {
		if togetherOf(f, places) != everyone(f) {
			continue
		}
		if countedPlaces(places)%2 == f.Members%2 {
			all++
		} else {
			all--
		}
	}
	return all
}

func TestPromise85OddSets(t *testing.T) {
	nothing := 0
	for _, f := range countSamples() {
		odd, want := told(t, f, impl.CountOdd), 0
		for some, many := range triedSizes(f) {
			if some%2 == 1 {
				want += many
			} else {
				want -= many
			}
		}
		wantNumber(t, "CountOdd", f, odd, want)
		wantNumber(t, "CountOdd by sets of places", f, odd, oddTogether(f))
		if odd == 0 {
			nothing++
		}
	}
	wantBoth(t, "as many great sets of odd as of even members", nothing, len(countSamples()))
}
