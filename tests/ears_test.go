package tests

import (
	"slices"
	"testing"

	"loop.example/clubsandmembers/impl"
)

func earCalls() []familyCall {
	return []familyCall{
		{"EarReduce", func(f impl.Family) outcome { return ofFamily(impl.EarReduce(f)) }},
		{"EarFalls", func(f impl.Family) outcome { return outcome{ok: impl.EarFalls(f)} }},
		{"EarTree", func(f impl.Family) outcome { return ofList(impl.EarTree(f)) }},
		{"EarByPairs", func(f impl.Family) outcome { return outcome{ok: impl.EarByPairs(f)} }},
		{"EarOrder", func(f impl.Family) outcome { return ofList(impl.EarOrder(f)) }},
		{"EarSteps", func(f impl.Family) outcome { return ofNumber(impl.EarSteps(f)) }},
	}
}

// earCase has what each function returns for one family. Without a list, EarTree or EarOrder fails. Just where there is an order, the family falls apart.
type earCase struct {
	family         impl.Family
	left           []int
	steps          int
	tree, order    []int
	forest, nested bool
}

// fallingCases fall apart, and have few enough clubs for a tree.
func fallingCases() []earCase {
	return []earCase{
		{
			family: impl.Family{Members: 3, Clubs: []int{3, 6}}, left: []int{0}, steps: 4,
			tree: []int{0, 0}, order: []int{0, 1, 2}, forest: true,
		},
		{ // the least member can't be taken out first
			family: impl.Family{Members: 3, Clubs: []int{3, 5}}, left: []int{0}, steps: 4,
			tree: []int{0, 0}, order: []int{1, 0, 2}, forest: true,
		},
		{ // a club behind is told
			family: impl.Family{Members: 4, Clubs: []int{3, 12, 6}}, left: []int{0}, steps: 6,
			tree: []int{0, 2, 0}, order: []int{0, 1, 2, 3}, forest: true,
		},
		{ // the last club has all others as parts
			family: impl.Family{Members: 3, Clubs: []int{3, 5, 6, 7}}, left: []int{0}, steps: 6,
			tree: []int{0, 3, 3, 0}, order: []int{0, 1, 2},
		},
		{
			family: impl.Family{Members: 5, Clubs: []int{1, 3, 7, 15, 31}}, left: []int{0}, steps: 9,
			tree: []int{0, 0, 1, 2, 3}, order: []int{0, 1, 2, 3, 4}, nested: true,
		},
		{ // two common members
			family: impl.Family{Members: 4, Clubs: []int{7, 14}}, left: []int{0}, steps: 5,
			tree: []int{0, 0}, order: []int{0, 1, 2, 3},
		},
		{ // four pairs go round, but a fifth one is between them
			family: impl.Family{Members: 4, Clubs: []int{7, 13}}, left: []int{0}, steps: 5,
			tree: []int{0, 0}, order: []int{1, 0, 2, 3},
		},
		{ // each member has two pairs, but none lead from the first club to the second one
			family: impl.Family{Members: 6, Clubs: []int{7, 56}}, left: []int{0}, steps: 7,
			tree: []int{0, 0}, order: []int{0, 1, 2, 3, 4, 5}, forest: true, nested: true,
		},
		{ // a row
			family: impl.Family{Members: 6, Clubs: []int{48, 24, 12, 6, 3}}, left: []int{0}, steps: 10,
			tree: []int{0, 0, 1, 2, 3}, order: []int{0, 1, 2, 3, 4, 5}, forest: true,
		},
		{ // a star
			family: impl.Family{Members: 6, Clubs: []int{3, 5, 9, 17, 33}}, left: []int{0}, steps: 10,
			tree: []int{0, 0, 0, 0, 0}, order: []int{1, 2, 3, 4, 0, 5}, forest: true,
		},
		// one club
		{
			family: impl.Family{Members: 3, Clubs: []int{5}}, left: []int{0}, steps: 2,
			tree: []int{0}, order: []int{0, 1, 2}, forest: true, nested: true,
		},
		{
			family: impl.Family{Members: 1, Clubs: []int{1}}, left: []int{0}, steps: 1,
			tree: []int{0}, order: []int{0}, forest: true, nested: true,
		},
	}
}

// equalCases have the same set more than once, most of them an empty one or none of a single member.
func equalCases() []earCase {
	return []earCase{
		{
			family: impl.Family{Members: 2, Clubs: []int{3, 3}}, left: []int{0}, steps: 3,
			tree: []int{0, 0}, order: []int{0, 1}, nested: true,
		},
		{ // of one member: nothing goes round
			family: impl.Family{Members: 2, Clubs: []int{1, 1, 1}}, left: []int{0}, steps: 3,
			tree: []int{0, 0, 0}, order: []int{0, 1}, forest: true, nested: true,
		},
		{ // the first club is no part of the way from one of the others to the other one
			family: impl.Family{Members: 3, Clubs: []int{3, 6, 6}}, left: []int{0}, steps: 5,
			tree: []int{0, 0, 1}, order: []int{0, 1, 2},
		},
		{
			family: impl.Family{Members: 5, Clubs: []int{6, 6}}, left: []int{0}, steps: 3,
			tree: []int{0, 0}, order: []int{0, 1, 2, 3, 4}, nested: true,
		},
		{
			family: impl.Family{Members: 6, Clubs: []int{6, 48, 9, 3, 48}}, left: []int{0}, steps: 10,
			tree: []int{0, 0, 3, 0, 1}, order: []int{2, 1, 0, 3, 4, 5},
		},
		{
			family: impl.Family{Members: 6, Clubs: []int{63, 63, 63, 63, 63}}, left: []int{0}, steps: 10,
			tree: []int{0, 0, 0, 0, 0}, order: []int{0, 1, 2, 3, 4, 5}, nested: true,
		},
		{ // those of a round are dropped, the round stays
			family: impl.Family{Members: 4, Clubs: []int{3, 6, 12, 9, 6}}, left: []int{3, 6, 9, 12}, steps: 1,
		},
		{
			family: impl.Family{Members: 3, Clubs: []int{6, 3, 5, 3}}, left: []int{3, 5, 6}, steps: 1,
		},
		// empty clubs
		{
			family: impl.Family{Members: 1, Clubs: []int{0}}, left: []int{0},
			tree: []int{0}, order: []int{0}, forest: true, nested: true,
		},
		{
			family: impl.Family{Members: 2, Clubs: []int{0, 0}}, left: []int{0}, steps: 1,
			tree: []int{0, 0}, order: []int{0, 1}, forest: true, nested: true,
		},
		{
			family: impl.Family{Members: 3, Clubs: []int{3, 0, 6, 0}}, left: []int{0}, steps: 6,
			tree: []int{0, 0, 0, 0}, order: []int{0, 1, 2}, forest: true,
		},
		{
			family: impl.Family{Members: 3, Clubs: []int{0, 3, 6}}, left: []int{0}, steps: 5,
			tree: []int{0, 0, 1}, order: []int{0, 1, 2}, forest: true,
		},
		{
			family: impl.Family{Members: 3, Clubs: []int{0, 3, 5, 6}}, left: []int{3, 5, 6}, steps: 1,
		},
	}
}

// wholeCases do not fall apart.
func wholeCases() []earCase {
	return []earCase{
		{family: impl.Family{Members: 3, Clubs: []int{3, 5, 6}}, left: []int{3, 5, 6}},
		{family: impl.Family{Members: 4, Clubs: []int{7, 11, 13, 14}}, left: []int{7, 11, 13, 14}},
		// one round of each size
		{family: impl.Family{Members: 4, Clubs: []int{3, 6, 12, 9}}, left: []int{3, 6, 9, 12}},
		{family: impl.Family{Members: 5, Clubs: []int{3, 6, 12, 24, 17}}, left: []int{3, 6, 12, 17, 24}},
		{family: impl.Family{Members: 6, Clubs: []int{3, 6, 12, 24, 48, 33}}, left: []int{3, 6, 12, 24, 33, 48}},
		// two rounds of three
		{family: impl.Family{Members: 6, Clubs: []int{3, 5, 6, 24, 40, 48}}, left: []int{3, 5, 6, 24, 40, 48}},
		// a round with a row behind it, taken off from its end on
		{family: impl.Family{Members: 6, Clubs: []int{3, 6, 12, 9, 24, 48}}, left: []int{3, 6, 9, 12}, steps: 4},
		// a round of clubs without two common members
		{family: impl.Family{Members: 6, Clubs: []int{7, 28, 49}}, left: []int{5, 17, 20}, steps: 3},
		// a part of it falls apart
		{family: impl.Family{Members: 6, Clubs: []int{56, 3, 5, 6}}, left: []int{3, 5, 6}, steps: 4},
		{family: impl.Family{Members: 6, Clubs: []int{3, 6, 12, 24, 48, 33, 3, 0}}, left: []int{3, 6, 12, 24, 33, 48}, steps: 2},
	}
}

// treelessCases fall apart, but have no clubs or too many for a tree.
func treelessCases() []earCase {
	all := []int{0, 1, 2, 3, 4, 5}
	return []earCase{
		{family: impl.Family{Members: 1}, order: []int{0}, forest: true, nested: true},
		{family: impl.Family{Members: 6, Clubs: []int{}}, order: all, forest: true, nested: true},
		{family: impl.Family{Members: 6, Clubs: []int{1, 2, 4, 8, 16, 32}}, left: []int{0}, steps: 11, order: all, forest: true, nested: true},
		{family: impl.Family{Members: 1, Clubs: []int{1, 1, 1, 1, 1, 1}}, left: []int{0}, steps: 6, order: []int{0}, forest: true, nested: true},
		{family: impl.Family{Members: 2, Clubs: []int{3, 3, 3, 3, 3, 3}}, left: []int{0}, steps: 7, order: []int{0, 1}, nested: true},
		{family: impl.Family{Members: 6, Clubs: make([]int, 8)}, left: []int{0}, steps: 7, order: all, forest: true, nested: true},
		{family: impl.Family{Members: 6, Clubs: []int{1, 2, 4, 8, 16, 32, 0, 63}}, left: []int{0}, steps: 13, order: all, forest: true, nested: true},
		{family: impl.Family{Members: 6, Clubs: []int{63, 63, 63, 63, 63, 63, 63, 63}}, left: []int{0}, steps: 13, order: all, nested: true},
		{family: impl.Family{Members: 6, Clubs: []int{3, 6, 12, 24, 48, 33, 30, 63}}, left: []int{0}, steps: 13, order: all},
	}
}

func everyEarCase() []earCase {
	return slices.Concat(fallingCases(), equalCases(), wholeCases(), treelessCases())
}

func TestEarReduceAndSteps(t *testing.T) {
	for _, c := range everyEarCase() {
		wantFamily(t, "EarReduce", c.family.Members, c.left, ofFamily(impl.EarReduce(c.family)))
		wantNumber(t, "EarSteps", c.family, told(t, c.family, impl.EarSteps), c.steps)
	}
}

func wantListOrNone(t *testing.T, what string, f impl.Family, call func(impl.Family) ([]int, bool), want []int) {
	t.Helper()
	if want == nil {
		wantFailed(t, what, ofList(call(f)))
		return
	}
	wantList(t, what, f, told(t, f, call), want)
}

func TestEarLists(t *testing.T) {
	for _, c := range everyEarCase() {
		wantListOrNone(t, "EarTree", c.family, impl.EarTree, c.tree)
		wantListOrNone(t, "EarOrder", c.family, impl.EarOrder, c.order)
	}
}

func wantAnswer(t *testing.T, what string, f impl.Family, got, want bool) {
	t.Helper()
	if got != want {
		t.Errorf("%s of %v is %v", what, f, got)
	}
}

func TestEarAnswers(t *testing.T) {
	for _, c := range everyEarCase() {
		falls := c.order != nil
		wantAnswer(t, "EarFalls", c.family, impl.EarFalls(c.family), falls)
		wantAnswer(t, "EarByPairs", c.family, impl.EarByPairs(c.family), falls)
		wantAnswer(t, "EarForest", c.family, impl.EarForest(c.family), c.forest)
		wantAnswer(t, "EarNested", c.family, impl.EarNested(c.family), c.nested)
	}
}

// Up to 5 clubs there is a tree, and from 6 on none is told, though the families fall apart all the same.
func TestEarTreeByTheNumberOfClubs(t *testing.T) {
	for clubs := 0; clubs <= impl.ClubsMax; clubs++ {
		for _, set := range []int{0, 1, 63} {
			f := impl.Family{Members: impl.MembersMax, Clubs: slices.Repeat([]int{set}, clubs)}
			wantAnswer(t, "EarFalls", f, impl.EarFalls(f), true)
			if clubs < 1 || clubs > 5 {
				wantFailed(t, "EarTree of another number of clubs", ofList(impl.EarTree(f)))
				continue
			}
			wantList(t, "EarTree", f, told(t, f, impl.EarTree), make([]int, clubs))
		}
	}
}

func TestEarAnswersOfNoFamilies(t *testing.T) {
	for _, f := range noFamilies() {
		wantAnswer(t, "EarFalls", f, impl.EarFalls(f), false)
		wantAnswer(t, "EarByPairs", f, impl.EarByPairs(f), false)
		wantAnswer(t, "EarForest", f, impl.EarForest(f), false)
		wantAnswer(t, "EarNested", f, impl.EarNested(f), false)
	}
}

func TestEarAnswersLeaveArgumentsAlone(t *testing.T) {
	for _, f := range append(memoryFamilies(), noFamilies()...) {
		given := impl.Family{Members: f.Members, Clubs: roomy(f.Clubs)}
		forest, nested := impl.EarForest(given), impl.EarNested(given)
		wantUntouched(t, "EarForest or EarNested", given.Clubs, f.Clubs)
		wantAnswer(t, "EarForest, asked again,", f, impl.EarForest(f), forest)
		wantAnswer(t, "EarNested, asked again,", f, impl.EarNested(f), nested)
	}
}
