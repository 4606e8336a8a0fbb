package tests

import (
	"slices"
	"testing"

	"loop.example/clubsandmembers/impl"
)

// The promises of chapter 9, one test for each, held against sums that are added up here member by member, and against determinants.

func rankSamples() []impl.Family {
	all := earSamples()
	for _, c := range everyRankCase() {
		all = append(all, c.family)
	}
	return all
}

// rankDuals has just the samples of which a dual is told.
func rankDuals(t *testing.T, look func(f, dual impl.Family)) {
	t.Helper()
	many := 0
	for _, f := range rankSamples() {
		if dual, ok := impl.FamilyDual(f); ok {
			look(f, dual)
			many++
		}
	}
	if many == 0 {
		t.Errorf("no sample has a dual")
	}
}

// wantSome asks less than wantBoth: of all families few are as these promises want them.
func wantSome(t *testing.T, what string, are, all int) {
	t.Helper()
	if are < 50 || are == all {
		t.Errorf("%s: %d of %d samples", what, are, all)
	}
}

// squareSamples have as many clubs as members.
func squareSamples() []impl.Family {
	var all []impl.Family
	for _, f := range rankSamples() {
		if len(f.Clubs) == f.Members {
			all = append(all, f)
		}
	}
	return all
}

// clubsAt has the clubs at some places.
func clubsAt(f impl.Family, places int) impl.Family {
	made := impl.Family{Members: f.Members}
	for place, set := range f.Clubs {
		if isIn(places, place) {
			made.Clubs = append(made.Clubs, set)
		}
	}
	return made
}

// addedUp has the members of an odd number of clubs.
func addedUp(f impl.Family) int {
	degrees := countedDegrees(f)
	return membersWith(f, func(member int) bool { return degrees[member]%2 == 1 })
}

// inJustOne has the members that are in just one of two sets.
func inJustOne(f impl.Family, set, other int) int {
	return membersWith(f, func(member int) bool { return isIn(set, member) != isIn(other, member) })
}

// areFree tells whether no clubs, one at least, add up to even numbers only.
func areFree(f impl.Family) bool {
	for places := 1; places < 1<<len(f.Clubs); places++ {
		if addedUp(clubsAt(f, places)) == 0 {
			return false
		}
	}
	return true
}

func triedEven(f impl.Family) int {
	most := 0
	for places := range 1 << len(f.Clubs) {
		if many := countedPlaces(places); many > most && areFree(clubsAt(f, places)) {
			most = many
		}
	}
	return most
}

// determinant goes along the first club.
func determinant(clubs, members []int) int {
	if len(clubs) == 0 {
		return 1
	}
	all, sign := 0, 1
	for place, member := range members {
		if isIn(clubs[0], member) {
			all += sign * determinant(clubs[1:], slices.Concat(members[:place], members[place+1:]))
		}
		sign = -sign
	}
	return all
}

// triedWhole is the greatest number of clubs and members with a determinant that is not 0.
func triedWhole(f impl.Family) int {
	most := 0
	for places := range 1 << len(f.Clubs) {
		many := countedPlaces(places)
		for set := range 1 << f.Members {
			if many > most && countedMembers(set) == many && determinant(clubsAt(f, places).Clubs, listed(f, set)) != 0 {
				most = many
			}
		}
	}
	return most
}

func triedMeets(f impl.Family) [][]int {
	var rows [][]int
	for _, set := range f.Clubs {
		var row []int
		for _, other := range f.Clubs {
			row = append(row, countedMembers(commonOf(f, []int{set, other})))
		}
		rows = append(rows, row)
	}
	return rows
}

func triedSpread(f impl.Family) []int {
	var spread []int
	for set := range 1 << f.Members {
		if !slices.ContainsFunc(f.Clubs, func(club int) bool { return countedMembers(commonOf(f, []int{set, club}))%2 == 1 }) {
			spread = append(spread, set)
		}
	}
	return spread
}

func triedOdd(f impl.Family) bool {
	for i, set := range f.Clubs {
		if countedMembers(set)%2 == 0 {
			return false
		}
		for _, other := range f.Clubs[:i] {
			if countedMembers(commonOf(f, []int{set, other}))%2 == 1 {
				return false
			}
		}
	}
	return true
}

func triedSame(f impl.Family) bool {
	if len(f.Clubs) < 2 {
		return false
	}
	first := countedMembers(commonOf(f, f.Clubs[:2]))
	for i, set := range f.Clubs {
		for _, other := range f.Clubs[:i] {
			if set == other || countedMembers(commonOf(f, []int{set, other})) != first {
				return false
			}
		}
	}
	return first >= 1
}

func TestPromise66Lines(t *testing.T) {
	less := 0
	for _, f := range rankSamples() {
		lines, whole := told(t, f, impl.SpeakerLines), told(t, f, impl.RankWhole)
		if whole > lines {
			t.Errorf("RankWhole of %v is %d, and SpeakerLines %d", f, whole, lines)
		}
		if whole < lines {
			less++
		}
	}
	wantBoth(t, "a rank less than lines", less, len(rankSamples()))
	rankDuals(t, func(f, dual impl.Family) {
		wantNumber(t, "SpeakerLines", f, told(t, f, impl.SpeakerLines), told(t, dual, impl.SpeakerLines))
	})
}

func TestPromise67Signs(t *testing.T) {
	all := squareSamples()
	nothing := 0
	for _, f := range all {
		sign, many := told(t, f, impl.SpeakerSign), told(t, f, impl.SpeakerMany)
		if max(sign, -sign) > many || (many-sign)%2 != 0 {
			t.Errorf("SpeakerSign of %v is %d, and SpeakerMany %d", f, sign, many)
		}
		wantNumber(t, "SpeakerSign", f, sign, determinant(f.Clubs, between(0, f.Members-1)))
		wantAnswer(t, "that RankWhole is less than the members", f, told(t, f, impl.RankWhole) < f.Members, sign == 0)
		if sign == 0 {
			nothing++
		}
	}
	wantBoth(t, "a sign of 0", nothing, len(all))
}

func TestPromise68OddSigns(t *testing.T) {
	all := squareSamples()
	odd, apart := 0, 0
	for _, f := range all {
		sign := told(t, f, impl.SpeakerSign)
		is := sign%2 != 0
		wantAnswer(t, "that RankEven is the number of members", f, told(t, f, impl.RankEven) == f.Members, is)
		wantAnswer(t, "that SpeakerMany is odd", f, told(t, f, impl.SpeakerMany)%2 == 1, is)
		if is {
			odd++
		} else if sign != 0 {
			apart++
		}
	}
	wantBoth(t, "an odd sign", odd, len(all))
	if apart == 0 {
		t.Errorf("no sign is even, but not 0")
	}
}

func TestPromise69EvenRanks(t *testing.T) {
	less := 0
	for _, f := range rankSamples() {
		even, whole := told(t, f, impl.RankEven), told(t, f, impl.RankWhole)
		wantNumber(t, "RankEven", f, even, triedEven(f))
		if even > whole {
			t.Errorf("RankEven of %v is %d, and RankWhole %d", f, even, whole)
		}
		if even < whole {
			less++
		}
	}
	wantSome(t, "ranks that differ", less, len(rankSamples()))
	rankDuals(t, func(f, dual impl.Family) {
		wantNumber(t, "RankEven", f, told(t, f, impl.RankEven), told(t, dual, impl.RankEven))
	})
}

func TestPromise70Ranks(t *testing.T) {
	for _, f := range rankSamples() {
		whole := told(t, f, impl.RankWhole)
		wantNumber(t, "RankWhole", f, whole, triedWhole(f))
		if simple := told(t, told(t, f, impl.FamilySimple), impl.RankWhole); whole > simple || whole > f.Members {
			t.Errorf("RankWhole of %v is %d, and that of FamilySimple %d", f, whole, simple)
		}
	}
	rankDuals(t, func(f, dual impl.Family) {
		wantNumber(t, "RankWhole", f, told(t, f, impl.RankWhole), told(t, dual, impl.RankWhole))
	})
}

func TestPromise71Sums(t *testing.T) {
	for _, f := range rankSamples() {
		last := 1<<len(f.Clubs) - 1
		all := told(t, f, rankSum(last))
		for places := range last + 1 {
			sum, others := told(t, f, rankSum(places)), told(t, f, rankSum(last-places))
			wantNumber(t, "RankSum", f, sum, addedUp(clubsAt(f, places)))
			wantNumber(t, "RankSum of all places", f, inJustOne(f, sum, others), all)
		}
		wantFailed(t, "RankSum of one place more", ofNumber(impl.RankSum(f, last+1)))
		wantFailed(t, "RankSum of a negative set", ofNumber(impl.RankSum(f, -1)))
	}
}

func TestPromise72ManySums(t *testing.T) {
	for _, f := range rankSamples() {
		var sums []int
		for places := range 1 << len(f.Clubs) {
			if sum := addedUp(clubsAt(f, places)); !hasNumber(sums, sum) {
				sums = append(sums, sum)
			}
		}
		many := told(t, f, impl.RankSums)
		wantNumber(t, "RankSums", f, many, len(sums))
		wantNumber(t, "RankSums by RankEven", f, many, power(2, told(t, f, impl.RankEven)))
	}
}

func TestPromise73CommonMembers(t *testing.T) {
	for _, f := range rankSamples() {
		rows := told(t, f, impl.RankMeets)
		wantRows(t, "RankMeets", f, rows, triedMeets(f))
		var middle []int
		all, squares := 0, 0
		for i, row := range rows {
			middle = append(middle, row[i])
			all += sum(row)
			for k := range row {
				wantNumber(t, "RankMeets turned", f, rows[k][i], row[k])
			}
		}
		for _, degree := range told(t, f, impl.FamilyDegrees) {
			squares += degree * degree
		}
		wantList(t, "the middle of RankMeets", f, middle, told(t, f, impl.FamilySizes))
		wantNumber(t, "the sum of RankMeets", f, all, squares)
	}
}

func TestPromise74Spreads(t *testing.T) {
	for _, f := range rankSamples() {
		spread := told(t, f, impl.RankSpread)
		wantList(t, "RankSpread", f, spread, triedSpread(f))
		wantNumber(t, "RankSpread times RankSums", f, len(spread)*told(t, f, impl.RankSums), 1<<f.Members)
		for _, set := range spread {
			for _, other := range spread {
				if !hasNumber(spread, inJustOne(f, set, other)) {
					t.Errorf("RankSpread of %v is %v, without what %d and %d differ by", f, spread, set, other)
				}
			}
		}
	}
}

func TestPromise75OddClubs(t *testing.T) {
	all := rankSamples()
	odd := 0
	for _, f := range all {
		is := impl.RankOdd(f)
		wantAnswer(t, "RankOdd", f, is, triedOdd(f))
		if !is {
			continue
		}
		odd++
		wantNumber(t, "RankEven of odd clubs", f, told(t, f, impl.RankEven), len(f.Clubs))
		if len(f.Clubs) > f.Members {
			t.Errorf("RankOdd of %v holds", f)
		}
	}
	wantSome(t, "odd clubs", odd, len(all))
}

func TestPromise76SameNumbers(t *testing.T) {
	all := rankSamples()
	same := 0
	for _, f := range all {
		is := impl.RankSame(f)
		wantAnswer(t, "RankSame", f, is, triedSame(f))
		if !is {
			continue
		}
		same++
		wantNumber(t, "RankWhole of clubs with the same numbers", f, told(t, f, impl.RankWhole), len(f.Clubs))
		if len(f.Clubs) > f.Members {
			t.Errorf("RankSame of %v holds", f)
		}
	}
	wantSome(t, "the same numbers", same, len(all))
}
