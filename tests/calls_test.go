package tests

import (
	"slices"
	"testing"

	"loop.example/clubsandmembers/impl"
)

// outcome takes the result of any function of the chapters, so that one loop can look at all of them.
type outcome struct {
	members int
	list    []int
	lists   [][]int
	number  int
	ok      bool
}

func ofFamily(f impl.Family, ok bool) outcome {
	return outcome{members: f.Members, list: f.Clubs, ok: ok}
}

func ofList(list []int, ok bool) outcome {
	return outcome{list: list, ok: ok}
}

// ofFamilies has the numbers of members of the families as its list.
func ofFamilies(all []impl.Family, ok bool) outcome {
	made := outcome{ok: ok}
	for _, f := range all {
		made.list = append(made.list, f.Members)
		made.lists = append(made.lists, f.Clubs)
	}
	return made
}

func ofNumber(number int, ok bool) outcome {
	return outcome{number: number, ok: ok}
}

func (o outcome) same(p outcome) bool {
	return o.members == p.members && o.number == p.number && o.ok == p.ok &&
		slices.Equal(o.list, p.list) && slices.EqualFunc(o.lists, p.lists, slices.Equal)
}

// kept shares no memory with the result, so that what happens to that can be seen.
func (o outcome) kept() outcome {
	o.list, o.lists = slices.Clone(o.list), slices.Clone(o.lists)
	for place, list := range o.lists {
		o.lists[place] = slices.Clone(list)
	}
	return o
}

func (o outcome) spoil() {
	spoil(o.list)
	for _, list := range o.lists {
		spoil(list)
	}
}

type familyCall struct {
	name string
	call func(f impl.Family) outcome
}

// everyCall has the calls of all chapters built so far: what is tested of one is tested of all.
func everyCall() []familyCall {
	return slices.Concat(familyCalls(), alikeCalls(), tableCalls(), coverCalls(), speakerCalls(), earCalls(), colourCalls(), meetCalls(), rankCalls(), countCalls())
}

func TestCallsFailForNoFamilies(t *testing.T) {
	for _, f := range noFamilies() {
		for _, c := range everyCall() {
			wantFailed(t, c.name, c.call(f))
		}
	}
}

// The family has no empty club and as many clubs as members, because some calls fail just by that. Where it has speakers, SpeakerBad has to fail, and equal clubs have no answer by which they differ.
func TestCallsSucceed(t *testing.T) {
	f := impl.Family{Members: 4, Clubs: []int{3, 5, 12, 12}}
	failing := []string{"SpeakerBad", "RankOdd", "RankSame"}
	for _, c := range everyCall() {
		if c.call(f).ok == slices.Contains(failing, c.name) {
			t.Errorf("%s of %v tells %v", c.name, f, c.call(f).ok)
		}
	}
}

func wantFailed(t *testing.T, what string, o outcome) {
	t.Helper()
	if o.ok {
		t.Errorf("%s succeeds", what)
	}
	if o.members != 0 || len(o.list) != 0 || len(o.lists) != 0 || o.number != 0 {
		t.Errorf("%s fails, but other results are not zero values: %v", what, o)
	}
}

func wantFamily(t *testing.T, what string, members int, clubs []int, o outcome) {
	t.Helper()
	if !o.same(outcome{members: members, list: clubs, ok: true}) {
		t.Errorf("%s is %v, want members %d, clubs %v", what, o, members, clubs)
	}
}
