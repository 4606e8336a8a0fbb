package tests

import (
	"math"
	"testing"

	"loop.example/clubsandmembers/impl"
)

// told stops the test where a family is valid and the call fails all the same: promises that begin with "if" would hold emptily.
func told[T any](t *testing.T, f impl.Family, call func(impl.Family) (T, bool)) T {
	t.Helper()
	made, ok := call(f)
	if !ok {
		t.Fatalf("the call fails for %v", f)
	}
	return made
}

// samples has all families of at most 3 members and 3 clubs, and some greater ones up to the limits.
func samples() []impl.Family {
	var all []impl.Family
	for members := 1; members <= 3; members++ {
		for clubs := 0; clubs <= 3; clubs++ {
			all = append(all, everyFamily(members, clubs)...)
		}
	}
	for members := 4; members <= impl.MembersMax; members++ {
		for clubs := 0; clubs <= impl.ClubsMax; clubs++ {
			for turn := 0; turn < 12; turn++ {
				all = append(all, mixedFamily(members, clubs, turn))
			}
		}
	}
	return append(all, edgeFamilies()...)
}

func everyFamily(members, clubs int) []impl.Family {
	made := []impl.Family{{Members: members}}
	for place := 0; place < clubs; place++ {
		var longer []impl.Family
		for _, f := range made {
			for set := 0; set < 1<<members; set++ {
				longer = append(longer, impl.Family{Members: members, Clubs: append(append([]int{}, f.Clubs...), set)})
			}
		}
		made = longer
	}
	return made
}

// mixedFamily thins out the sets of later turns: dense sets alone would nearly always hang together.
func mixedFamily(members, clubs, turn int) impl.Family {
	f := impl.Family{Members: members}
	state := uint32(members*1000 + clubs*100 + turn + 1)
	next := func() int {
		state = state*1664525 + 1013904223
		return int(state>>16) % (1 << members)
	}
	for place := 0; place < clubs; place++ {
		set := next()
		for thin := turn % 4; thin > 0; thin-- {
			set &= next()
		}
		f.Clubs = append(f.Clubs, set)
	}
	return f
}

func edgeFamilies() []impl.Family {
	return []impl.Family{
		{Members: 1},
		{Members: impl.MembersMax, Clubs: []int{}},
		{Members: 1, Clubs: []int{0}},
		{Members: impl.MembersMax, Clubs: []int{0, 0, 0, 0, 0, 0, 0, 0}},
		{Members: impl.MembersMax, Clubs: []int{63, 63, 63, 63, 63, 63, 63, 63}},
		{Members: impl.MembersMax, Clubs: []int{1, 2, 4, 8, 16, 32}},
		{Members: impl.MembersMax, Clubs: []int{1, 2, 4, 8, 16, 32, 0, 63}},
		{Members: impl.MembersMax, Clubs: []int{48, 24, 12, 6, 3}},
		{Members: impl.MembersMax, Clubs: []int{6, 48, 9, 3, 48}},
		{Members: 5, Clubs: []int{31, 7, 7, 0, 24, 31}},
	}
}

// noFamilies have one fault each, so that each check is needed for one of them.
func noFamilies() []impl.Family {
	none := []impl.Family{
		{},
		{Members: -1},
		{Members: impl.MembersMax + 1},
		{Members: 64},
		{Members: math.MaxInt},
		{Members: math.MinInt},
		{Members: 0, Clubs: []int{0}},
		{Members: -1, Clubs: []int{0}},
		{Members: impl.MembersMax + 1, Clubs: []int{1}},
		{Members: math.MinInt, Clubs: []int{1}},
		{Members: 3, Clubs: make([]int, impl.ClubsMax+1)},
		{Members: 3, Clubs: make([]int, 1000)},
	}
	for _, set := range []int{-1, -8, 8, 9, 64, math.MinInt, math.MaxInt} {
		none = append(none,
			impl.Family{Members: 3, Clubs: []int{set}},
			impl.Family{Members: 3, Clubs: []int{set, 1, 2}},
			impl.Family{Members: 3, Clubs: []int{1, 2, set}})
	}
	for members := 1; members <= impl.MembersMax; members++ {
		none = append(none, impl.Family{Members: members, Clubs: []int{0, 1 << members}})
	}
	return none
}

func manyNames(members int) [][]int {
	names := [][]int{{}}
	for place := 0; place < members; place++ {
		var longer [][]int
		for _, p := range names {
			for name := 0; name < members; name++ {
				if !hasNumber(p, name) {
					longer = append(longer, append(append([]int{}, p...), name))
				}
			}
		}
		names = longer
	}
	return names
}

// someNames keeps the runs short: 720 names for each greater family would be many.
func someNames(members int) [][]int {
	names := manyNames(members)
	if len(names) <= 6 {
		return names
	}
	last := len(names) - 1
	return [][]int{names[0], names[last/5], names[last/3], names[last/2], names[last*3/4], names[last]}
}

func hasNumber(list []int, number int) bool {
	for _, x := range list {
		if x == number {
			return true
		}
	}
	return false
}

func sum(list []int) int {
	all := 0
	for _, x := range list {
		all += x
	}
	return all
}

func isIn(set, member int) bool {
	for ; member > 0; member-- {
		set /= 2
	}
	return set%2 == 1
}

func isPart(small, great int) bool {
	for member := 0; member < impl.MembersMax; member++ {
		if isIn(small, member) && !isIn(great, member) {
			return false
		}
	}
	return true
}
