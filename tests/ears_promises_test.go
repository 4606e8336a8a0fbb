package tests

import (
	"slices"
	"testing"

	"loop.example/clubsandmembers/impl"
)

// The promises of chapter 6, one test for each and more, held against steps, trees, pairs and rounds that are tried here one by one.

// earSamples has all families of 4 members and 4 clubs in order, too: among these are rounds of all kinds with clubs across.
func earSamples() []impl.Family {
	all := samples()
	for _, f := range everyFamily(4, 4) {
		if slices.IsSorted(f.Clubs) {
			all = append(all, f)
		}
	}
	for _, c := range everyEarCase() {
		all = append(all, c.family)
	}
	return all
}

// reducedBy makes one step after the other, of all that may be made always the one that a turn leads to, and counts them.
func reducedBy(f impl.Family, turn int) (clubs []int, many int) {
	clubs = slices.Clone(f.Clubs)
	for {
		steps := reducingSteps(impl.Family{Members: f.Members, Clubs: clubs})
		if len(steps) == 0 {
			slices.Sort(clubs)
			return clubs, many
		}
		many++
		clubs = steps[many*turn%len(steps)]
	}
}

// reducingSteps has the clubs behind each step that may be made.
func reducingSteps(f impl.Family) [][]int {
	var made [][]int
	for place, set := range f.Clubs {
		for member := range f.Members {
			if isIn(set, member) && countedDegrees(f)[member] == 1 {
				taken := slices.Clone(f.Clubs)
				taken[place] -= 1 << member
				made = append(made, taken)
			}
		}
		for other, great := range f.Clubs {
			if isPart(set, great) && (set != great || other < place) {
				made = append(made, slices.Concat(f.Clubs[:place], f.Clubs[place+1:]))
				break
			}
		}
	}
	return made
}

// everyTree has all trees of some clubs, in order: the lists in which each told club is ahead in some order.
func everyTree(clubs int) [][]int {
	lists := [][]int{{0}}
	for range clubs - 1 {
		var longer [][]int
		for _, list := range lists {
			for told := range clubs {
				longer = append(longer, append(slices.Clone(list), told))
			}
		}
		lists = longer
	}
	return slices.DeleteFunc(lists, func(list []int) bool { return !isTree(list) })
}

func isTree(list []int) bool {
	return slices.ContainsFunc(manyNames(len(list)), func(order []int) bool {
		for place, club := range order {
			if place == 0 && club != 0 || place > 0 && !hasNumber(order[:place], list[club]) {
				return false
			}
		}
		return true
	})
}

// isRight asks member by member.
func isRight(f impl.Family, tree []int) bool {
	for member := range f.Members {
		alone, many := 0, 0
		for place, set := range f.Clubs {
			if !isIn(set, member) {
				continue
			}
			many++
			if place == 0 || !isIn(f.Clubs[tree[place]], member) {
				alone++
			}
		}
		if many > 0 && alone != 1 {
			return false
		}
	}
	return true
}

func arePair(f impl.Family, v, w int) bool {
	return v != w && slices.ContainsFunc(f.Clubs, func(set int) bool { return isIn(set, v) && isIn(set, w) })
}

func listed(f impl.Family, set int) []int {
	var members []int
	for member := range f.Members {
		if isIn(set, member) {
			members = append(members, member)
		}
	}
	return members
}

func areTied(f impl.Family, members []int) bool {
	for place, v := range members {
		for _, w := range members[:place] {
			if !arePair(f, v, w) {
				return false
			}
		}
	}
	return true
}

// areRound goes from the first member on, by pairs, never back: where each member has two, it has to meet all of them.
func areRound(f impl.Family, members []int) bool {
	if len(members) < 4 {
		return false
	}
	next := func(met []int) []int {
		return slices.DeleteFunc(slices.Clone(members), func(w int) bool { return hasNumber(met, w) || !arePair(f, met[len(met)-1], w) })
	}
	for _, v := range members {
		if len(next([]int{v})) != 2 {
			return false
		}
	}
	met := members[:1:1]
	for on := next(met); len(on) > 0; on = next(met) {
		met = append(met, on[0])
	}
	return len(met) == len(members)
}

// triedFull asks each set of members of clubs.
func triedFull(f impl.Family) bool {
	ofClubs := membersWith(f, func(member int) bool {
		return slices.ContainsFunc(f.Clubs, func(set int) bool { return isIn(set, member) })
	})
	for set := 1; set < 1<<f.Members; set++ {
		inClub := slices.ContainsFunc(f.Clubs, func(club int) bool { return isPart(set, club) })
		if isPart(set, ofClubs) && areTied(f, listed(f, set)) && !inClub {
			return false
		}
	}
	return true
}

func triedByPairs(f impl.Family) bool {
	for set := range 1 << f.Members {
		if areRound(f, listed(f, set)) {
			return false
		}
	}
	return triedFull(f)
}

// leaves takes out one member after the other, as they are told.
func leaves(f impl.Family, order []int) bool {
	clubs := slices.Clone(f.Clubs)
	for _, member := range order {
		with := slices.DeleteFunc(slices.Clone(clubs), func(set int) bool { return !isIn(set, member) })
		great := slices.ContainsFunc(with, func(set int) bool {
			return !slices.ContainsFunc(with, func(other int) bool { return !isPart(other, set) })
		})
		if len(with) > 0 && !great {
			return false
		}
		for place, set := range clubs {
			if isIn(set, member) {
				clubs[place] -= 1 << member
			}
		}
	}
	return true
}

func firstThat(lists [][]int, is func(list []int) bool) ([]int, bool) {
	place := slices.IndexFunc(lists, is)
	if place < 0 {
		return nil, false
	}
	return lists[place], true
}

// goesRound tells whether clubs that were met, by members that were met, lead back to the first one.
func goesRound(f impl.Family, places, members []int) bool {
	for _, member := range listed(f, f.Clubs[places[len(places)-1]]) {
		if hasNumber(members, member) {
			continue
		}
		if len(places) >= 3 && isIn(f.Clubs[places[0]], member) {
			return true
		}
		for place, set := range f.Clubs {
			if isIn(set, member) && !hasNumber(places, place) && goesRound(f, append(slices.Clone(places), place), append(slices.Clone(members), member)) {
				return true
			}
		}
	}
	return false
}

func triedForest(f impl.Family) bool {
	for place, set := range f.Clubs {
		for _, other := range f.Clubs[:place] {
			if len(listed(f, set))+len(listed(f, other))-len(listed(f, set|other)) >= 2 {
				return false
			}
		}
	}
	for place := range f.Clubs {
		if goesRound(f, []int{place}, nil) {
			return false
		}
	}
	return true
}

func TestPromise42ReducedFamilies(t *testing.T) {
	for _, f := range earSamples() {
		left := told(t, f, impl.EarReduce)
		for turn := range 4 {
			clubs, many := reducedBy(f, turn*turn)
			wantClubs(t, "EarReduce", f, left, clubs)
			wantNumber(t, "EarSteps", f, told(t, f, impl.EarSteps), many)
		}
		wantClubs(t, "EarReduce of it", f, told(t, left, impl.EarReduce), left.Clubs)
		degrees := countedDegrees(left)
		if hasNumber(degrees, 1) {
			t.Errorf("EarReduce of %v is %v with a member in just one club", f, left)
		}
		for place, set := range left.Clubs {
			for other, great := range left.Clubs {
				if place != other && isPart(set, great) {
					t.Errorf("EarReduce of %v is %v with a club that is a part of another one", f, left)
				}
			}
		}
	}
}

func TestPromise43FallingApartByThreeWays(t *testing.T) {
	falling := 0
	for _, f := range earSamples() {
		falls := impl.EarFalls(f)
		order, ok := impl.EarOrder(f)
		wantAnswer(t, "EarFalls", f, falls, triedByPairs(f))
		wantAnswer(t, "EarByPairs", f, impl.EarByPairs(f), falls)
		wantAnswer(t, "the success of EarOrder", f, ok, falls)
		first, _ := firstThat(manyNames(f.Members), func(p []int) bool { return leaves(f, p) })
		wantList(t, "EarOrder", f, order, first)
		left := told(t, f, impl.EarReduce).Clubs
		wantAnswer(t, "EarFalls", f, falls, len(left) == 0 || slices.Equal(left, []int{0}))
		if falls {
			falling++
		}
	}
	if all := len(earSamples()); falling < 100 || falling > all-100 {
		t.Errorf("%d of %d samples fall apart", falling, all)
	}
}

// lookAtTrees looks at each sample that may have a tree, and at all trees of as many clubs.
func lookAtTrees(t *testing.T, look func(f impl.Family, trees [][]int)) {
	t.Helper()
	trees := make([][][]int, 6)
	for clubs := 1; clubs <= 5; clubs++ {
		trees[clubs] = everyTree(clubs)
	}
	many := 0
	for _, f := range earSamples() {
		if clubs := len(f.Clubs); clubs >= 1 && clubs <= 5 {
			look(f, trees[clubs])
			many++
			continue
		}
		wantFailed(t, "EarTree of another number of clubs", ofList(impl.EarTree(f)))
	}
	if many == 0 || len(trees[5]) != 125 {
		t.Errorf("%d samples, and %d trees of 5 clubs", many, len(trees[5]))
	}
}

func TestPromise44TreesOfFallingFamilies(t *testing.T) {
	lookAtTrees(t, func(f impl.Family, trees [][]int) {
		tree, ok := impl.EarTree(f)
		first, _ := firstThat(trees, func(list []int) bool { return isRight(f, list) })
		wantList(t, "EarTree", f, tree, first)
		if ok && !impl.EarFalls(f) {
			t.Errorf("EarTree of %v is %v, but it does not fall apart", f, tree)
		}
	})
}

func TestPromise45FallingFamiliesHaveTrees(t *testing.T) {
	lookAtTrees(t, func(f impl.Family, _ [][]int) {
		_, ok := impl.EarTree(f)
		wantAnswer(t, "the success of EarTree", f, ok, impl.EarFalls(f))
	})
}

func TestPromise46WithoutTheFirstOfTheOrder(t *testing.T) {
	for _, f := range earSamples() {
		order, ok := impl.EarOrder(f)
		if !ok {
			continue
		}
		rest, ok := impl.FamilyMeet(f, everyone(f)-1<<order[0])
		if !ok {
			t.Fatalf("FamilyMeet of %v fails", f)
		}
		wantAnswer(t, "EarFalls without the first of the order", f, impl.EarFalls(rest), true)
		wantList(t, "EarOrder behind the first one", f, slices.DeleteFunc(told(t, rest, impl.EarOrder), func(member int) bool { return member == order[0] }), order[1:])
	}
}

func TestPromise47Forests(t *testing.T) {
	forests := 0
	for _, f := range earSamples() {
		forest := impl.EarForest(f)
		wantAnswer(t, "EarForest", f, forest, triedForest(f))
		if !forest {
			continue
		}
		forests++
		wantAnswer(t, "EarFalls of a forest", f, impl.EarFalls(f), true)
		if rest, ok := impl.FamilyDrop(f, 0); ok {
			wantAnswer(t, "EarForest without the first club", f, impl.EarForest(rest), true)
		}
		if dual, ok := impl.FamilyDual(f); ok {
			wantAnswer(t, "EarForest of the dual", f, impl.EarForest(dual), true)
		}
	}
	if forests == 0 {
		t.Errorf("no sample is a forest")
	}
}

func TestPromise48PartsOfForests(t *testing.T) {
	for _, f := range earSamples() {
		empty := 0
		for _, set := range f.Clubs {
			if set == 0 {
				empty++
			}
		}
		all := sum(countedSizes(f)) + countedParts(f) + empty
		if impl.EarForest(f) {
			wantNumber(t, "what the links and parts of a forest are", f, all, f.Members+len(f.Clubs))
		}
	}
}

func TestPromise49Steps(t *testing.T) {
	count := func(f impl.Family) int { return countedMembers(togetherOf(f, 1<<len(f.Clubs)-1)) + len(f.Clubs) }
	for _, f := range earSamples() {
		left := told(t, f, impl.EarReduce)
		wantNumber(t, "EarSteps", f, told(t, f, impl.EarSteps), count(f)-count(left))
	}
}

func TestEarNestedOfSamples(t *testing.T) {
	nested := 0
	for _, f := range earSamples() {
		want := true
		for _, set := range f.Clubs {
			for _, other := range f.Clubs {
				want = want && (isPart(set, other) || isPart(other, set) || !haveCommon(set, other))
			}
		}
		wantAnswer(t, "EarNested", f, impl.EarNested(f), want)
		if want {
			nested++
			wantAnswer(t, "EarFalls of a nested one", f, impl.EarFalls(f), true)
		}
	}
	if nested == 0 {
		t.Errorf("no sample is nested")
	}
}

// A club told once more changes neither what is left nor whether it falls apart, wherever it is put; it is one step more, and two clubs with all their members in common.
func TestEqualClubsOfSamples(t *testing.T) {
	for _, f := range earSamples() {
		if len(f.Clubs) == impl.ClubsMax {
			continue
		}
		for place, set := range f.Clubs {
			g := impl.Family{Members: f.Members, Clubs: slices.Insert(slices.Clone(f.Clubs), len(f.Clubs)*(place%2), set)}
			wantClubs(t, "EarReduce with an equal club", g, told(t, g, impl.EarReduce), told(t, f, impl.EarReduce).Clubs)
			wantNumber(t, "EarSteps with an equal club", g, told(t, g, impl.EarSteps), told(t, f, impl.EarSteps)+1)
			wantAnswer(t, "EarFalls with an equal club", g, impl.EarFalls(g), impl.EarFalls(f))
			wantAnswer(t, "EarByPairs with an equal club", g, impl.EarByPairs(g), impl.EarByPairs(f))
			wantAnswer(t, "EarNested with an equal club", g, impl.EarNested(g), impl.EarNested(f))
			wantAnswer(t, "EarForest with an equal club", g, impl.EarForest(g), impl.EarForest(f) && countedMembers(set) <= 1)
			order, _ := impl.EarOrder(f)
			again, _ := impl.EarOrder(g)
			wantList(t, "EarOrder with an equal club", g, again, order)
			_, ok := impl.EarTree(g)
			wantAnswer(t, "the success of EarTree with an equal club", g, ok, len(g.Clubs) <= 5 && impl.EarFalls(f))
		}
	}
}
