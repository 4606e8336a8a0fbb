package tests

import (
	"slices"
	"sync"
	"testing"
	"testing/synctest"

	"loop.example/clubsandmembers/impl"
)

func speakerCalls() []familyCall {
	return []familyCall{
		{"SpeakerFirst", func(f impl.Family) outcome { return ofList(impl.SpeakerFirst(f)) }},
		{"SpeakerMany", func(f impl.Family) outcome { return ofNumber(impl.SpeakerMany(f)) }},
		{"SpeakerBad", func(f impl.Family) outcome { return ofNumber(impl.SpeakerBad(f)) }},
		{"SpeakerPairs", func(f impl.Family) outcome { return ofNumber(impl.SpeakerPairs(f)) }},
		{"SpeakerLines", func(f impl.Family) outcome { return ofNumber(impl.SpeakerLines(f)) }},
		{"SpeakerBlocked", func(f impl.Family) outcome { return ofNumber(impl.SpeakerBlocked(f)) }},
		{"SpeakerSign", func(f impl.Family) outcome { return ofNumber(impl.SpeakerSign(f)) }},
	}
}

// speakerCase has what each function but SpeakerSign returns for one family. SpeakerFirst fails where there are none, and SpeakerLines is the same number as SpeakerPairs.
type speakerCase struct {
	family         impl.Family
	first          []int
	many, bad      int
	pairs, blocked int
}

// spokenCases have speakers.
func spokenCases() []speakerCase {
	return []speakerCase{
		{
			family: impl.Family{Members: 3, Clubs: []int{3, 5, 6}},
			first:  []int{0, 2, 1}, many: 2, bad: none, pairs: 3, blocked: 7,
		},
		{ // the first club can't have its least member
			family: impl.Family{Members: 2, Clubs: []int{3, 1}},
			first:  []int{1, 0}, many: 1, bad: none, pairs: 2, blocked: 3,
		},
		{ // fewer clubs than members
			family: impl.Family{Members: 4, Clubs: []int{12, 6}},
			first:  []int{2, 1}, many: 3, bad: none, pairs: 2, blocked: 0,
		},
		{ // equal clubs, and members of no club
			family: impl.Family{Members: 5, Clubs: []int{6, 6}},
			first:  []int{1, 2}, many: 2, bad: none, pairs: 2, blocked: 6,
		},
		{ // one member has to be given, the others not
			family: impl.Family{Members: 4, Clubs: []int{2, 15}},
			first:  []int{1, 0}, many: 3, bad: none, pairs: 2, blocked: 2,
		},
		{ // a row: any one of the members may be left out
			family: impl.Family{Members: 6, Clubs: []int{48, 24, 12, 6, 3}},
			first:  []int{4, 3, 2, 1, 0}, many: 6, bad: none, pairs: 5, blocked: 0,
		},
		{
			family: impl.Family{Members: 1, Clubs: []int{1}},
			first:  []int{0}, many: 1, bad: none, pairs: 1, blocked: 1,
		},
		{
			family: impl.Family{Members: 6, Clubs: []int{32, 16, 8, 4, 2, 1}},
			first:  []int{5, 4, 3, 2, 1, 0}, many: 1, bad: none, pairs: 6, blocked: 63,
		},
		{
			family: impl.Family{Members: 6, Clubs: []int{63, 63, 63, 63, 63, 63}},
			first:  []int{0, 1, 2, 3, 4, 5}, many: 720, bad: none, pairs: 6, blocked: 63,
		},
		{
			family: impl.Family{Members: 6, Clubs: []int{63, 63, 63, 63, 63}},
			first:  []int{0, 1, 2, 3, 4}, many: 720, bad: none, pairs: 5, blocked: 0,
		},
		// no clubs: the empty list are speakers
		{family: impl.Family{Members: 1}, many: 1, bad: none},
		{family: impl.Family{Members: 6, Clubs: []int{}}, many: 1, bad: none},
	}
}

// unspokenCases have a bad set: the least number, which is not the one of fewest places.
func unspokenCases() []speakerCase {
	return []speakerCase{
		{family: impl.Family{Members: 2, Clubs: []int{3, 3, 1}}, bad: 7, pairs: 2, blocked: 3},
		{family: impl.Family{Members: 1, Clubs: []int{1, 1}}, bad: 3, pairs: 1, blocked: 1},
		{family: impl.Family{Members: 4, Clubs: []int{1, 1, 14}}, bad: 3, pairs: 2, blocked: 1},
		{family: impl.Family{Members: 4, Clubs: []int{14, 1, 1}}, bad: 6, pairs: 2, blocked: 1},
		{family: impl.Family{Members: 4, Clubs: []int{3, 3, 3, 0}}, bad: 7, pairs: 2, blocked: 3},
		{family: impl.Family{Members: 6, Clubs: []int{7, 7, 7, 7, 56, 8}}, bad: 15, pairs: 5, blocked: 15},
		// two bad sets that no club has in both
		{family: impl.Family{Members: 6, Clubs: []int{1, 12, 1, 2, 2}}, bad: 5, pairs: 3, blocked: 3},
		// empty clubs
		{family: impl.Family{Members: 1, Clubs: []int{0}}, bad: 1},
		{family: impl.Family{Members: 3, Clubs: []int{3, 0, 5}}, bad: 2, pairs: 2, blocked: 0},
		{family: impl.Family{Members: 6, Clubs: make([]int, 8)}, bad: 1},
		// more clubs than members, up to the limit
		{family: impl.Family{Members: 6, Clubs: []int{1, 2, 4, 8, 16, 32, 0, 63}}, bad: 64, pairs: 6, blocked: 63},
		{family: impl.Family{Members: 6, Clubs: []int{63, 63, 63, 63, 63, 63, 63}}, bad: 127, pairs: 6, blocked: 63},
		{family: impl.Family{Members: 6, Clubs: []int{63, 63, 63, 63, 63, 63, 63, 63}}, bad: 127, pairs: 6, blocked: 63},
		{family: impl.Family{Members: 6, Clubs: []int{32, 1, 2, 4, 8, 16, 3, 32}}, bad: 70, pairs: 6, blocked: 63},
		{family: impl.Family{Members: 1, Clubs: []int{1, 1, 1, 1, 1, 1, 1, 1}}, bad: 3, pairs: 1, blocked: 1},
	}
}

func everySpeakerCase() []speakerCase {
	return append(spokenCases(), unspokenCases()...)
}

func TestSpeakerLists(t *testing.T) {
	for _, c := range spokenCases() {
		wantList(t, "SpeakerFirst", c.family, told(t, c.family, impl.SpeakerFirst), c.first)
	}
	for _, c := range unspokenCases() {
		wantFailed(t, "SpeakerFirst", ofList(impl.SpeakerFirst(c.family)))
	}
}

func TestSpeakerNumbers(t *testing.T) {
	for _, c := range everySpeakerCase() {
		wantNumber(t, "SpeakerMany", c.family, told(t, c.family, impl.SpeakerMany), c.many)
		wantNumberOrNone(t, "SpeakerBad", c.family, impl.SpeakerBad, c.bad)
		wantNumber(t, "SpeakerPairs", c.family, told(t, c.family, impl.SpeakerPairs), c.pairs)
		wantNumber(t, "SpeakerLines", c.family, told(t, c.family, impl.SpeakerLines), c.pairs)
		wantNumber(t, "SpeakerBlocked", c.family, told(t, c.family, impl.SpeakerBlocked), c.blocked)
	}
}

func TestSpeakerSign(t *testing.T) {
	cases := []struct {
		clubs []int
		sign  int
	}{
		{[]int{1}, 1},
		{[]int{0}, 0},
		{[]int{1, 2}, 1},
		{[]int{2, 1}, -1},
		{[]int{3, 3}, 0},
		{[]int{3, 1}, -1},
		{[]int{3, 5, 6}, -2},
		{[]int{6, 5, 3}, 2},
		{[]int{2, 4, 1}, 1},
		{[]int{7, 7, 7}, 0},
		{[]int{1, 1, 6}, 0},
		{[]int{14, 13, 11, 7}, -3},
		{[]int{30, 29, 27, 23, 15}, 4},
		{[]int{62, 61, 59, 55, 47, 31}, -5},
		{[]int{63, 63, 63, 63, 63, 63}, 0},
		{[]int{1, 2, 4, 8, 16, 32}, 1},
		{[]int{32, 16, 8, 4, 2, 1}, -1},
		{[]int{0, 2, 4, 8, 16, 32}, 0},
	}
	for _, c := range cases {
		f := impl.Family{Members: len(c.clubs), Clubs: c.clubs}
		wantNumber(t, "SpeakerSign", f, told(t, f, impl.SpeakerSign), c.sign)
	}
}

func TestSpeakerSignNeedsAsManyClubsAsMembers(t *testing.T) {
	for members := 1; members <= impl.MembersMax; members++ {
		for clubs := 0; clubs <= impl.ClubsMax; clubs++ {
			f := impl.Family{Members: members}
			for place := range clubs {
				f.Clubs = append(f.Clubs, 1<<(place%members))
			}
			if clubs == members {
				wantNumber(t, "SpeakerSign", f, told(t, f, impl.SpeakerSign), 1)
				continue
			}
			wantFailed(t, "SpeakerSign of another number of clubs", ofNumber(impl.SpeakerSign(f)))
		}
	}
}

// A goroutine that is left waiting would be a deadlock of the bubble.
func TestSpeakersLeaveNoGoroutine(t *testing.T) {
	for _, f := range append(memoryFamilies(), noFamilies()...) {
		for _, c := range speakerCalls() {
			synctest.Test(t, func(*testing.T) { c.call(f) })
		}
	}
}

// Which goroutine is ahead must not be seen, whatever else goes on.
func TestSpeakersAtOnce(t *testing.T) {
	for _, c := range spokenCases() {
		var callers sync.WaitGroup
		for range 20 {
			callers.Go(func() {
				first, _ := impl.SpeakerFirst(c.family)
				many, _ := impl.SpeakerMany(c.family)
				if !slices.Equal(first, c.first) || many != c.many {
					t.Errorf("at once, SpeakerFirst of %v is %v and SpeakerMany %d", c.family, first, many)
				}
			})
		}
		callers.Wait()
	}
}
