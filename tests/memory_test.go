package tests

import (
	"slices"
	"testing"

	"loop.example/clubsandmembers/impl"
)

const mark = -77

// roomy has room behind the list, filled with marks: an append to the list itself would be seen there.
func roomy(list []int) []int {
	made := make([]int, len(list), len(list)+4)
	copy(made, list)
	behind := made[len(list):cap(made)]
	for place := range behind {
		behind[place] = mark
	}
	return made
}

// spoil writes over all memory of a result, that behind its end, too.
func spoil(list []int) {
	list = list[:cap(list)]
	for place := range list {
		list[place] = -99
	}
}

func wantUntouched(t *testing.T, what string, list, before []int) {
	t.Helper()
	if !slices.Equal(list, before) {
		t.Errorf("%s modifies its argument %v to %v", what, before, list)
	}
	for _, x := range list[len(list):cap(list)] {
		if x != mark {
			t.Errorf("%s writes behind its argument %v", what, before)
		}
	}
}

func wantBothUntouched(t *testing.T, what string, call func(f, g impl.Family)) {
	t.Helper()
	families := append(memoryFamilies(), impl.Family{Members: 3, Clubs: []int{9, 1}}, impl.Family{})
	for _, f := range families {
		for _, g := range families {
			first := impl.Family{Members: f.Members, Clubs: roomy(f.Clubs)}
			second := impl.Family{Members: g.Members, Clubs: roomy(g.Clubs)}
			call(first, second)
			wantUntouched(t, what, first.Clubs, f.Clubs)
			wantUntouched(t, what, second.Clubs, g.Clubs)
		}
	}
}

// memoryFamilies need no change by some of the functions: there a result is most easily the argument itself.
func memoryFamilies() []impl.Family {
	return append(edgeFamilies(),
		impl.Family{Members: 3, Clubs: []int{1, 2, 4}},
		impl.Family{Members: 3, Clubs: []int{4, 2, 1}},
		impl.Family{Members: 4, Clubs: []int{12, 3, 12, 0, 15}},
		impl.Family{Members: 4, Clubs: []int{1, 1, 1}},
	)
}

func TestCallsLeaveArgumentsAlone(t *testing.T) {
	for _, f := range memoryFamilies() {
		for _, c := range everyCall() {
			given := impl.Family{Members: f.Members, Clubs: roomy(f.Clubs)}
			made := c.call(given)
			wantUntouched(t, c.name, given.Clubs, f.Clubs)
			made.spoil()
			wantUntouched(t, c.name+" with its result written over", given.Clubs, f.Clubs)
		}
	}
}

func TestCallsFailingLeaveArgumentsAlone(t *testing.T) {
	for _, f := range noFamilies() {
		for _, c := range everyCall() {
			given := impl.Family{Members: f.Members, Clubs: roomy(f.Clubs)}
			c.call(given)
			wantUntouched(t, c.name, given.Clubs, f.Clubs)
		}
	}
}

func TestFamilyInLeavesArgumentsAlone(t *testing.T) {
	for _, f := range append(memoryFamilies(), noFamilies()...) {
		given := impl.Family{Members: f.Members, Clubs: roomy(f.Clubs)}
		impl.FamilyIn(given)
		wantUntouched(t, "FamilyIn", given.Clubs, f.Clubs)
	}
}

func TestResultsShareNoMemory(t *testing.T) {
	for _, f := range memoryFamilies() {
		for _, c := range everyCall() {
			first := c.call(f)
			kept := first.kept()
			second := c.call(f)
			first.spoil()
			if !second.same(kept) {
				t.Errorf("%s of %v shares memory with an earlier result", c.name, f)
			}
			if third := c.call(f); !third.same(kept) {
				t.Errorf("%s of %v keeps state between calls", c.name, f)
			}
		}
	}
}

func TestListsOfOneResultShareNoMemory(t *testing.T) {
	for _, f := range memoryFamilies() {
		for _, c := range everyCall() {
			for place := range c.call(f).lists {
				made := c.call(f)
				want := made.kept()
				spoil(made.lists[place])
				want.lists[place] = made.lists[place]
				if !made.same(want) {
					t.Errorf("%s of %v has lists that share memory", c.name, f)
				}
			}
		}
	}
}

// What was made of a family must not follow when the family is changed later.
func TestResultsDoNotFollowArguments(t *testing.T) {
	for _, f := range memoryFamilies() {
		for _, c := range everyCall() {
			given := impl.Family{Members: f.Members, Clubs: roomy(f.Clubs)}
			made := c.call(given)
			kept := made.kept()
			spoil(given.Clubs)
			if !made.same(kept) {
				t.Errorf("%s of %v follows its argument", c.name, f)
			}
		}
	}
}

func TestFamilyNamedLeavesNamesAlone(t *testing.T) {
	f := impl.Family{Members: 3, Clubs: []int{3, 5, 6}}
	for _, p := range append(manyNames(3), []int{0, 1}, []int{2, 1, 2}, []int{3, 1, 0}) {
		given := roomy(p)
		made, ok := impl.FamilyNamed(f, given)
		wantUntouched(t, "FamilyNamed", given, p)
		spoil(made.Clubs)
		wantUntouched(t, "FamilyNamed with its result written over", given, p)
		if ok != (len(p) == 3 && slices.Max(p) == 2 && sum(p) == 3) {
			t.Errorf("FamilyNamed by %v tells %v", p, ok)
		}
	}
}

// A nil list and an empty one are the same as arguments.
func TestCallsTakeNilAsEmpty(t *testing.T) {
	for members := 1; members <= impl.MembersMax; members++ {
		for _, c := range everyCall() {
			none, empty := c.call(impl.Family{Members: members}), c.call(impl.Family{Members: members, Clubs: []int{}})
			if !none.same(empty) {
				t.Errorf("%s tells %v for no list and %v for an empty one", c.name, none, empty)
			}
		}
	}
}
