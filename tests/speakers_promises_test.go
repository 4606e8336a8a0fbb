package tests

import (
	"slices"
	"testing"

	"loop.example/clubsandmembers/impl"
)

// The promises of chapter 5, one test for each, held against speakers and pairs that are found here club by club.

func speakerSamples() []impl.Family {
	all := samples()
	for _, c := range everySpeakerCase() {
		all = append(all, c.family)
	}
	return all
}

// triedSpeakers has all speakers, made longer club by club.
func triedSpeakers(f impl.Family) [][]int {
	made := [][]int{{}}
	for _, set := range f.Clubs {
		var longer [][]int
		for _, list := range made {
			for member := range f.Members {
				if isIn(set, member) && !hasNumber(list, member) {
					longer = append(longer, append(slices.Clone(list), member))
				}
			}
		}
		made = longer
	}
	return made
}

// togetherOf needs no place to be one of a club: it asks for those that are.
func togetherOf(f impl.Family, places int) int {
	return membersWith(f, func(member int) bool {
		for place, set := range f.Clubs {
			if isIn(places, place) && isIn(set, member) {
				return true
			}
		}
		return false
	})
}

// countedPlaces goes up to ClubsMax, where countedMembers would end at MembersMax.
func countedPlaces(places int) int {
	many := 0
	for place := range impl.ClubsMax {
		if isIn(places, place) {
			many++
		}
	}
	return many
}

// triedOver is by how much some places are more than their members.
func triedOver(f impl.Family, places int) int {
	return countedPlaces(places) - countedMembers(togetherOf(f, places))
}

// triedPairs has the number of the most pairs, and the sets of the members given by as many.
func triedPairs(f impl.Family) (pairs int, given []int) {
	given = []int{0}
	for _, set := range f.Clubs {
		for _, before := range slices.Clone(given) {
			for member := range f.Members {
				more := before | 1<<member
				if isIn(set, member) && !isIn(before, member) && !hasNumber(given, more) {
					given = append(given, more)
				}
			}
		}
	}
	for _, set := range given {
		pairs = max(pairs, countedMembers(set))
	}
	return pairs, slices.DeleteFunc(given, func(set int) bool { return countedMembers(set) < pairs })
}

func TestPromise36FirstSpeakers(t *testing.T) {
	many := 0
	for _, f := range speakerSamples() {
		all := triedSpeakers(f)
		first, ok := impl.SpeakerFirst(f)
		if ok != (len(all) > 0) || !ok && len(first) != 0 {
			t.Errorf("SpeakerFirst of %v is %v, %v, and there are %d", f, first, ok, len(all))
		}
		if !ok {
			continue
		}
		many++
		wantList(t, "SpeakerFirst", f, first, all[0])
		for place, speaker := range first {
			if !isIn(f.Clubs[place], speaker) || hasNumber(first[:place], speaker) {
				t.Errorf("SpeakerFirst of %v is %v", f, first)
			}
		}
		if told(t, f, impl.SpeakerMany) < 1 {
			t.Errorf("SpeakerMany of %v is less than 1", f)
		}
	}
	if many == 0 {
		t.Errorf("no sample has speakers")
	}
}

func TestPromise37SpeakersOrABadSet(t *testing.T) {
	for _, f := range speakerSamples() {
		_, spoken := impl.SpeakerFirst(f)
		bad, ok := impl.SpeakerBad(f)
		if !impl.FamilyIn(f) || spoken == ok {
			t.Errorf("SpeakerFirst of %v tells %v, and SpeakerBad is %d, %v", f, spoken, bad, ok)
		}
	}
	for _, f := range noFamilies() {
		wantFailed(t, "SpeakerFirst", ofList(impl.SpeakerFirst(f)))
		wantFailed(t, "SpeakerBad", ofNumber(impl.SpeakerBad(f)))
	}
}

func TestPromise38ManySpeakers(t *testing.T) {
	for _, f := range speakerSamples() {
		many := told(t, f, impl.SpeakerMany)
		wantNumber(t, "SpeakerMany", f, many, len(triedSpeakers(f)))
		product := 1
		for _, size := range countedSizes(f) {
			product *= size
		}
		if _, ok := impl.SpeakerFirst(f); many > product || (many == 0) == ok {
			t.Errorf("SpeakerMany of %v is %d, and SpeakerFirst tells %v", f, many, ok)
		}
		turned := impl.Family{Members: f.Members, Clubs: slices.Clone(f.Clubs)}
		slices.Reverse(turned.Clubs)
		wantNumber(t, "SpeakerMany of the clubs backwards", f, told(t, turned, impl.SpeakerMany), many)
	}
}

func TestPromise39BadSets(t *testing.T) {
	many := 0
	for _, f := range speakerSamples() {
		bad, ok := impl.SpeakerBad(f)
		if !ok {
			continue
		}
		many++
		if bad < 0 || bad >= 1<<len(f.Clubs) || countedMembers(togetherOf(f, bad)) >= countedPlaces(bad) {
			t.Errorf("SpeakerBad of %v is %d", f, bad)
		}
		for places := range bad {
			if triedOver(f, places) > 0 {
				t.Errorf("SpeakerBad of %v is %d, but %d is bad, too", f, bad, places)
			}
		}
	}
	if many == 0 {
		t.Errorf("no sample has a bad set")
	}
}

func TestPromise40PairsAndLines(t *testing.T) {
	for _, f := range speakerSamples() {
		pairs := told(t, f, impl.SpeakerPairs)
		most, _ := triedPairs(f)
		wantNumber(t, "SpeakerPairs", f, pairs, most)
		over := 0
		for places := range 1 << len(f.Clubs) {
			over = max(over, triedOver(f, places))
		}
		wantNumber(t, "SpeakerPairs", f, pairs, len(f.Clubs)-over)
		wantNumber(t, "SpeakerLines", f, told(t, f, impl.SpeakerLines), pairs)
	}
}

// The clubs are told first here: then all members of the others have to be.
func TestPromise40LinesByClubs(t *testing.T) {
	for _, f := range speakerSamples() {
		all := 1<<len(f.Clubs) - 1
		least := len(f.Clubs)
		for places := range all {
			least = min(least, countedPlaces(places)+countedMembers(togetherOf(f, all-places)))
		}
		wantNumber(t, "SpeakerLines", f, told(t, f, impl.SpeakerLines), least)
	}
}

func TestPromise41BlockedMembers(t *testing.T) {
	for _, f := range speakerSamples() {
		blocked := told(t, f, impl.SpeakerBlocked)
		pairs, given := triedPairs(f)
		always := everyone(f)
		for _, set := range given {
			always &= set
		}
		wantNumber(t, "SpeakerBlocked", f, blocked, always)
		if countedMembers(blocked) > pairs || !isPart(blocked, told(t, f, impl.FamilyAll)) {
			t.Errorf("SpeakerBlocked of %v is %d, and SpeakerPairs %d", f, blocked, pairs)
		}
		kept, ok := impl.FamilyMeet(f, blocked)
		if !ok {
			t.Fatalf("FamilyMeet of %v and %d fails", f, blocked)
		}
		wantNumber(t, "SpeakerPairs of the blocked ones", f, told(t, kept, impl.SpeakerPairs), countedMembers(blocked))
	}
}

// leading is the sign as the first club gives each of its members away in turn, with the clubs behind left for the others.
func leading(clubs []int, members []int) int {
	if len(clubs) == 0 {
		return 1
	}
	sign := 0
	for place, member := range members {
		if !isIn(clubs[0], member) {
			continue
		}
		// The members ahead of this one are left for later clubs: each is a pair in the other order.
		rest := leading(clubs[1:], slices.Concat(members[:place], members[place+1:]))
		if place%2 == 0 {
			sign += rest
		} else {
			sign -= rest
		}
	}
	return sign
}

func TestSpeakerSignOfSamples(t *testing.T) {
	negative, positive := 0, 0
	for _, f := range speakerSamples() {
		if len(f.Clubs) != f.Members {
			wantFailed(t, "SpeakerSign of another number of clubs", ofNumber(impl.SpeakerSign(f)))
			continue
		}
		sign, many := told(t, f, impl.SpeakerSign), told(t, f, impl.SpeakerMany)
		wantNumber(t, "SpeakerSign", f, sign, leading(f.Clubs, manyNames(f.Members)[0]))
		if max(sign, -sign) > many || (many-sign)%2 != 0 {
			t.Errorf("SpeakerSign of %v is %d, and SpeakerMany %d", f, sign, many)
		}
		positive, negative = max(positive, sign), min(negative, sign)
	}
	if positive < 2 || negative > -2 {
		t.Errorf("the signs of the samples are from %d to %d", negative, positive)
	}
}

func TestSpeakerLinesOfTheDual(t *testing.T) {
	for _, f := range speakerSamples() {
		dual, ok := impl.FamilyDual(f)
		if !ok {
			continue
		}
		wantNumber(t, "SpeakerLines of the dual", f, told(t, dual, impl.SpeakerLines), told(t, f, impl.SpeakerLines))
	}
}
