package tests

import (
	"slices"
	"strconv"
	"testing"

	"loop.example/clubsandmembers/impl"
)

// The promises of chapter 7, one test for each, held against colours that are tried here two members after the other.

func colourSamples() []impl.Family {
	all := earSamples()
	for _, c := range everyColourCase() {
		all = append(all, c.family)
	}
	return all
}

// everyColours has all colours with k colours in order, the last member's changing first.
func everyColours(members, k int) [][]int {
	made := [][]int{{}}
	for range members {
		var longer [][]int
		for _, list := range made {
			for colour := range k {
				longer = append(longer, append(slices.Clone(list), colour))
			}
		}
		made = longer
	}
	return made
}

// colourLists keeps all colours, since many samples have as many members.
func colourLists() func(members, k int) [][]int {
	met := map[[2]int][][]int{}
	return func(members, k int) [][]int {
		if _, known := met[[2]int{members, k}]; !known {
			met[[2]int{members, k}] = everyColours(members, k)
		}
		return met[[2]int{members, k}]
	}
}

// isTwo tells whether two members of a club are alike, or differ, in their colours.
func isTwo(f impl.Family, set int, list []int, alike bool) bool {
	for v := range f.Members {
		for w := range v {
			if isIn(set, v) && isIn(set, w) && (list[v] == list[w]) == alike {
				return true
			}
		}
	}
	return false
}

func areFair(f impl.Family, list []int) bool {
	return !slices.ContainsFunc(f.Clubs, func(set int) bool { return !isTwo(f, set, list, false) })
}

func areProper(f impl.Family, list []int) bool {
	return !slices.ContainsFunc(f.Clubs, func(set int) bool { return isTwo(f, set, list, true) })
}

func countedLists(lists [][]int, is func(list []int) bool) int {
	many := 0
	for _, list := range lists {
		if is(list) {
			many++
		}
	}
	return many
}

func fairIn(f impl.Family) func(list []int) bool {
	return func(list []int) bool { return areFair(f, list) }
}

func properIn(f impl.Family) func(list []int) bool {
	return func(list []int) bool { return areProper(f, list) }
}

func leastSize(f impl.Family) int {
	return slices.Min(append(countedSizes(f), impl.MembersMax))
}

func greatestSize(f impl.Family) int {
	return slices.Max(append(countedSizes(f), 0))
}

func power(base, many int) int {
	made := 1
	for range many {
		made *= base
	}
	return made
}

func TestPromise50ManyColours(t *testing.T) {
	lists := colourLists()
	for _, f := range colourSamples() {
		for k := range coloursMax + 1 {
			many, by := told(t, f, colourMany(k)), " by "+strconv.Itoa(k)
			wantNumber(t, "ColourMany"+by, f, many, countedLists(lists(f.Members, k), fairIn(f)))
			if k > 0 && many%k != 0 {
				t.Errorf("ColourMany%s of %v is %d, no multiple", by, f, many)
			}
			if proper := told(t, f, colourProper(k)); leastSize(f) >= 2 && many < proper {
				t.Errorf("ColourMany%s of %v is %d, less than ColourProper, %d", by, f, many, proper)
			}
			if len(f.Clubs) == 0 {
				wantNumber(t, "ColourMany without clubs"+by, f, many, power(k, f.Members))
			}
		}
	}
}

func TestPromise51FirstColours(t *testing.T) {
	lists := colourLists()
	for _, f := range colourSamples() {
		for k := 1; k <= coloursMax; k++ {
			first, ok := impl.ColourFirst(f, k)
			want, are := firstThat(lists(f.Members, k), fairIn(f))
			wantAnswer(t, "the success of ColourFirst", f, ok, are)
			wantList(t, "ColourFirst by "+strconv.Itoa(k), f, first, want)
			if ok && (first[0] != 0 || !areFair(f, first)) {
				t.Errorf("ColourFirst by %d of %v is %v", k, f, first)
			}
		}
	}
}

func TestPromise52LeastNumberOfColours(t *testing.T) {
	lists := colourLists()
	met := map[int]bool{}
	for _, f := range colourSamples() {
		least, ok := impl.ColourLeast(f)
		wantAnswer(t, "the success of ColourLeast", f, ok, leastSize(f) >= 2)
		if !ok {
			continue
		}
		met[least] = true
		for k := range least + 1 {
			_, are := firstThat(lists(f.Members, k), fairIn(f))
			wantAnswer(t, "that there are colours by "+strconv.Itoa(k), f, are, k == least)
		}
		if least <= coloursMax && (told(t, f, colourMany(least)) == 0 || told(t, f, colourMany(least-1)) != 0) {
			t.Errorf("ColourLeast of %v is %d", f, least)
		}
		if impl.EarForest(f) && least > 2 {
			t.Errorf("ColourLeast of %v, a forest, is %d", f, least)
		}
	}
	if len(met) != coloursMax {
		t.Errorf("the samples have just %v", met)
	}
}

func TestPromise53UnevenColours(t *testing.T) {
	lists := colourLists()
	met := map[int]bool{}
	for _, f := range colourSamples() {
		uneven := told(t, f, impl.ColourUneven)
		met[uneven] = true
		wantNumber(t, "ColourUneven", f, uneven, triedUneven(f, lists(f.Members, 2)))
		odd := slices.ContainsFunc(countedSizes(f), func(size int) bool { return size%2 == 1 })
		if uneven > greatestSize(f) || odd && uneven < 1 || impl.EarForest(f) && uneven > 1 {
			t.Errorf("ColourUneven of %v is %d", f, uneven)
		}
	}
	if len(met) != 3 {
		t.Errorf("the samples have just %v", met)
	}
}

// triedUneven counts the members with 1 up and those with 0 down.
func triedUneven(f impl.Family, lists [][]int) int {
	least := impl.MembersMax
	for _, list := range lists {
		most := 0
		for _, set := range f.Clubs {
			more := 0
			for _, member := range listed(f, set) {
				more += 2*list[member] - 1
			}
			most = max(most, more, -more)
		}
		least = min(least, most)
	}
	return least
}

func TestPromise54ColourSets(t *testing.T) {
	for _, f := range colourSamples() {
		sets := told(t, f, impl.ColourSets)
		wantNumber(t, "the number of ColourSets", f, len(sets), told(t, f, colourMany(2)))
		var want []int
		for set := range 1 << f.Members {
			other := everyone(f) - set
			if isCover(f, set) && isCover(f, other) {
				want = append(want, set)
			}
			wantAnswer(t, "that all other members are one of ColourSets, too,", f, hasNumber(sets, other), hasNumber(sets, set))
		}
		wantList(t, "ColourSets", f, sets, want)
		for _, set := range sets {
			list := make([]int, f.Members)
			for _, member := range listed(f, set) {
				list[member] = 1
			}
			wantAnswer(t, "that ColourSets are fair", f, areFair(f, list), true)
		}
	}
}

func TestPromise55ProperColours(t *testing.T) {
	lists := colourLists()
	falling := 0
	for _, f := range colourSamples() {
		for k := range coloursMax + 1 {
			many, by := told(t, f, colourProper(k)), " by "+strconv.Itoa(k)
			wantNumber(t, "ColourProper"+by, f, many, countedLists(lists(f.Members, k), properIn(f)))
			if k < greatestSize(f) && many != 0 || k > 0 && many%k != 0 {
				t.Errorf("ColourProper%s of %v is %d", by, f, many)
			}
			if impl.EarFalls(f) && k >= max(1, greatestSize(f)) {
				falling++
				wantAnswer(t, "that there are proper colours"+by, f, many != 0, true)
			}
		}
	}
	if falling == 0 {
		t.Errorf("no sample that falls apart has enough colours")
	}
}
