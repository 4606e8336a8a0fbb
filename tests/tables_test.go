package tests

import (
	"math"
	"slices"
	"testing"

	"loop.example/clubsandmembers/impl"
)

func tableCalls() []familyCall {
	return []familyCall{
		{"TableSwitches", func(f impl.Family) outcome { return ofFamilies(impl.TableSwitches(f)) }},
		{"TableFar to itself", func(f impl.Family) outcome { return ofNumber(impl.TableFar(f, f)) }},
	}
}

// listCall takes sizes and degrees.
type listCall struct {
	name string
	call func(sizes, degrees []int) outcome
}

func listCalls() []listCall {
	return []listCall{
		{"TableIs", func(sizes, degrees []int) outcome { return outcome{ok: impl.TableIs(sizes, degrees)} }},
		{"TableFirst", func(sizes, degrees []int) outcome { return ofFamily(impl.TableFirst(sizes, degrees)) }},
		{"TableMany", func(sizes, degrees []int) outcome { return ofNumber(impl.TableMany(sizes, degrees)) }},
		{"TableSteps", func(sizes, degrees []int) outcome { return ofList(impl.TableSteps(degrees)) }},
	}
}

type tableCase struct {
	sizes, degrees []int
	many           int
	first          []int
	steps          []int
}

func tableCases() []tableCase {
	return []tableCase{
		{[]int{1, 1}, []int{1, 1}, 2, []int{1, 2}, []int{2, 0, 0, 0, 0}},
		{[]int{2, 1}, []int{1, 2}, 1, []int{3, 2}, []int{2, 1, 0, 0, 0}},
		{[]int{1, 2}, []int{1, 2}, 1, []int{2, 3}, []int{2, 1, 0, 0, 0}},
		// degrees that are not in order
		{[]int{1, 2}, []int{0, 2, 1}, 1, []int{2, 6}, []int{2, 1, 0, 0, 0}},
		{[]int{1, 1, 2}, []int{1, 2, 1}, 5, []int{1, 2, 6}, []int{3, 1, 0, 0, 0}},
		{[]int{0, 1, 0}, []int{0, 0, 0, 1}, 1, []int{0, 8, 0}, []int{1, 0, 0, 0, 0}},
		// no sizes
		{nil, []int{0}, 1, nil, []int{0, 0, 0, 0, 0}},
		{[]int{}, []int{0, 0, 0, 0, 0}, 1, nil, []int{0, 0, 0, 0, 0}},
		// empty clubs alone
		{[]int{0, 0}, []int{0}, 1, []int{0, 0}, []int{0, 0, 0, 0, 0}},
		{[]int{0, 0, 0, 0, 0}, []int{0, 0, 0, 0, 0}, 1, []int{0, 0, 0, 0, 0}, []int{0, 0, 0, 0, 0}},
		// both limits
		{[]int{2, 2, 2, 2, 2}, []int{2, 2, 2, 2, 2}, 2040, []int{3, 3, 12, 20, 24}, []int{5, 5, 0, 0, 0}},
		{[]int{1, 1, 1, 1, 1}, []int{1, 1, 1, 1, 1}, 120, []int{1, 2, 4, 8, 16}, []int{5, 0, 0, 0, 0}},
		{[]int{5, 5, 5, 5, 5}, []int{5, 5, 5, 5, 5}, 1, []int{31, 31, 31, 31, 31}, []int{5, 5, 5, 5, 5}},
		{[]int{5, 4, 3, 2, 1}, []int{1, 2, 3, 4, 5}, 1, []int{31, 30, 28, 24, 16}, []int{5, 4, 3, 2, 1}},
	}
}

// noTables are told as the document says, but no family has them.
func noTables() []tableCase {
	return []tableCase{
		// sums that differ
		{sizes: nil, degrees: []int{1}, steps: []int{1, 0, 0, 0, 0}},
		{sizes: []int{1, 1}, degrees: []int{1}, steps: []int{1, 0, 0, 0, 0}},
		{sizes: []int{1}, degrees: []int{1, 1}, steps: []int{2, 0, 0, 0, 0}},
		{sizes: []int{0}, degrees: []int{0, 5}, steps: []int{1, 1, 1, 1, 1}},
		{sizes: []int{5}, degrees: []int{0}, steps: []int{0, 0, 0, 0, 0}},
		{sizes: []int{2, 2, 2, 2, 2}, degrees: []int{2, 2, 2, 2, 1}, steps: []int{5, 4, 0, 0, 0}},
		// the greatest degree alone is too much
		{sizes: []int{3}, degrees: []int{1, 2}, steps: []int{2, 1, 0, 0, 0}},
		{sizes: []int{2, 2, 0}, degrees: []int{1, 3}, steps: []int{2, 1, 1, 0, 0}},
		// the two greatest ones are, and neither one nor three
		{sizes: []int{3, 1}, degrees: []int{2, 2, 0, 0}, steps: []int{2, 2, 0, 0, 0}},
		{sizes: []int{1, 3}, degrees: []int{0, 2, 0, 2}, steps: []int{2, 2, 0, 0, 0}},
		// all together are: a club would have more than all members
		{sizes: []int{3, 1}, degrees: []int{2, 2}, steps: []int{2, 2, 0, 0, 0}},
		{sizes: []int{2}, degrees: []int{2}, steps: []int{1, 1, 0, 0, 0}},
	}
}

// wrongSizes are not told as the document says, in one way each.
func wrongSizes() [][]int {
	wrong := [][]int{make([]int, 6), {1, 1, 1, 1, 1, 1}, make([]int, 1000)}
	for _, x := range []int{-1, 6, 7, 64, math.MinInt, math.MaxInt} {
		wrong = append(wrong, []int{x}, []int{x, 0}, []int{0, x}, []int{1, 0, 1, 0, x})
	}
	return wrong
}

func wrongDegrees() [][]int {
	return append(wrongSizes(), nil, []int{})
}

func wantTable(t *testing.T, c tableCase, is bool) {
	t.Helper()
	if impl.TableIs(c.sizes, c.degrees) != is {
		t.Errorf("TableIs of %v and %v is %v", c.sizes, c.degrees, !is)
	}
	if many, ok := impl.TableMany(c.sizes, c.degrees); !ok || many != c.many {
		t.Errorf("TableMany of %v and %v is %d, %v, want %d", c.sizes, c.degrees, many, ok, c.many)
	}
	if steps, ok := impl.TableSteps(c.degrees); !ok || !slices.Equal(steps, c.steps) {
		t.Errorf("TableSteps of %v is %v, %v, want %v", c.degrees, steps, ok, c.steps)
	}
}

func TestTables(t *testing.T) {
	for _, c := range tableCases() {
		wantTable(t, c, true)
		wantFamily(t, "TableFirst", len(c.degrees), c.first, ofFamily(impl.TableFirst(c.sizes, c.degrees)))
	}
}

func TestNoTables(t *testing.T) {
	for _, c := range noTables() {
		wantTable(t, c, false)
		wantFailed(t, "TableFirst", ofFamily(impl.TableFirst(c.sizes, c.degrees)))
	}
}

func TestTablesOfWrongLists(t *testing.T) {
	for _, c := range listCalls() {
		for _, sizes := range wrongSizes() {
			if c.name != "TableSteps" {
				wantFailed(t, c.name+" of wrong sizes", c.call(sizes, []int{0}))
				wantFailed(t, c.name+" of wrong sizes", c.call(sizes, []int{1, 1}))
			}
		}
		for _, degrees := range wrongDegrees() {
			wantFailed(t, c.name+" of wrong degrees", c.call(nil, degrees))
			wantFailed(t, c.name+" of wrong degrees", c.call([]int{0}, degrees))
			wantFailed(t, c.name+" of wrong degrees", c.call([]int{1, 1}, degrees))
			wantFailed(t, c.name+" of the same wrong list twice", c.call(degrees, degrees))
		}
	}
}

func TestListCallsLeaveArgumentsAlone(t *testing.T) {
	lists := append(wrongDegrees(), []int{0, 2, 1}, []int{1, 2}, []int{2, 2, 2, 2, 2}, []int{2, 0, 4, 1, 3})
	for _, c := range listCalls() {
		for _, sizes := range lists {
			for _, degrees := range lists {
				givenSizes, givenDegrees := roomy(sizes), roomy(degrees)
				made := c.call(givenSizes, givenDegrees)
				wantUntouched(t, c.name, givenSizes, sizes)
				wantUntouched(t, c.name, givenDegrees, degrees)
				kept := made.kept()
				spoil(givenSizes)
				spoil(givenDegrees)
				if !made.same(kept) {
					t.Errorf("%s of %v and %v follows its arguments", c.name, sizes, degrees)
				}
			}
		}
	}
}

func TestListCallsShareNoMemory(t *testing.T) {
	for _, c := range listCalls() {
		for _, k := range append(tableCases(), noTables()...) {
			first := c.call(k.sizes, k.degrees)
			kept := first.kept()
			second := c.call(k.sizes, k.degrees)
			first.spoil()
			if !second.same(kept) || !c.call(k.sizes, k.degrees).same(kept) {
				t.Errorf("%s of %v and %v shares memory or keeps state", c.name, k.sizes, k.degrees)
			}
		}
	}
}

type switchCase struct {
	family   impl.Family
	switched [][]int
}

func switchCases() []switchCase {
	return []switchCase{
		{impl.Family{Members: 2, Clubs: []int{1, 2}}, [][]int{{2, 1}}},
		{impl.Family{Members: 3, Clubs: []int{1, 2, 4}}, [][]int{{1, 4, 2}, {2, 1, 4}, {4, 2, 1}}},
		{impl.Family{Members: 4, Clubs: []int{12, 3}}, [][]int{{5, 10}, {6, 9}, {9, 6}, {10, 5}}},
		// equal clubs and empty ones
		{impl.Family{Members: 2, Clubs: []int{1, 1, 2}}, [][]int{{1, 2, 1}, {2, 1, 1}}},
		{impl.Family{Members: 2, Clubs: []int{0, 1, 0, 2}}, [][]int{{0, 2, 0, 1}}},
		{impl.Family{Members: 4, Clubs: []int{3, 3, 5, 0}}, [][]int{{3, 5, 3, 0}, {5, 3, 3, 0}}},
		// no switch leads away
		{impl.Family{Members: 1}, nil},
		{impl.Family{Members: 5, Clubs: []int{}}, nil},
		{impl.Family{Members: 5, Clubs: []int{0, 0, 0, 0, 0}}, nil},
		{impl.Family{Members: 5, Clubs: []int{31, 31, 31, 31, 31}}, nil},
		{impl.Family{Members: 5, Clubs: []int{9, 9, 9, 9, 9}}, nil},
		{impl.Family{Members: 5, Clubs: []int{7, 1, 31, 15, 3}}, nil},
		// both limits
		{impl.Family{Members: 5, Clubs: []int{1, 2, 4, 8, 16}}, [][]int{
			{1, 2, 4, 16, 8}, {1, 2, 8, 4, 16}, {1, 2, 16, 8, 4}, {1, 4, 2, 8, 16}, {1, 8, 4, 2, 16},
			{1, 16, 4, 8, 2}, {2, 1, 4, 8, 16}, {4, 2, 1, 8, 16}, {8, 2, 4, 1, 16}, {16, 2, 4, 8, 1},
		}},
	}
}

func TestTableSwitches(t *testing.T) {
	for _, c := range switchCases() {
		want := outcome{lists: c.switched, ok: true}
		for range c.switched {
			want.list = append(want.list, c.family.Members)
		}
		if made := ofFamilies(impl.TableSwitches(c.family)); !made.same(want) {
			t.Errorf("TableSwitches of %v is %v, want %v", c.family, made, want)
		}
	}
}

// greatFamilies are families, but greater than chapter 3 takes them, in one way each.
func greatFamilies() []impl.Family {
	return []impl.Family{
		{Members: 6},
		{Members: 6, Clubs: []int{1, 2}},
		{Members: 6, Clubs: []int{1, 2, 4, 8}},
		{Members: 5, Clubs: []int{1, 2, 4, 8, 16, 0}},
		{Members: 1, Clubs: []int{0, 0, 0, 0, 0, 0}},
		{Members: 2, Clubs: []int{1, 2, 1, 2, 1, 2, 1, 2}},
	}
}

func TestTableSwitchesOfGreatFamilies(t *testing.T) {
	for _, f := range greatFamilies() {
		wantFailed(t, "TableSwitches of a great family", ofFamilies(impl.TableSwitches(f)))
	}
}

type farCase struct {
	members  int
	from, to []int
	far      int
}

func farCases() []farCase {
	return []farCase{
		{2, []int{1, 2}, []int{2, 1}, 1},
		{2, []int{1, 0, 2}, []int{2, 0, 1}, 1},
		{3, []int{1, 2, 4}, []int{2, 4, 1}, 2},
		{3, []int{3, 5, 6}, []int{6, 3, 5}, 2},
		{4, []int{1, 2, 4, 8}, []int{2, 1, 8, 4}, 2},
		{4, []int{1, 2, 4, 8}, []int{2, 4, 8, 1}, 3},
		{4, []int{3, 12}, []int{12, 3}, 2},
		{4, []int{3, 3, 12, 12}, []int{12, 12, 3, 3}, 4},
		// equal clubs
		{2, []int{1, 1, 2}, []int{2, 1, 1}, 1},
		{2, []int{1, 1, 2, 2}, []int{2, 2, 1, 1}, 2},
		// no switch is needed
		{1, nil, []int{}, 0},
		{5, nil, nil, 0},
		{1, []int{0, 1}, []int{0, 1}, 0},
		{5, []int{31, 31, 31, 31}, []int{31, 31, 31, 31}, 0},
		{5, []int{1, 2, 4, 8}, []int{1, 2, 4, 8}, 0},
		// both limits
		{5, []int{3, 3, 28, 28}, []int{12, 12, 19, 19}, 4},
		{5, []int{3, 3, 28, 28}, []int{3, 12, 19, 28}, 2},
	}
}

func TestTableFar(t *testing.T) {
	for _, c := range farCases() {
		f, g := impl.Family{Members: c.members, Clubs: c.from}, impl.Family{Members: c.members, Clubs: c.to}
		if far, ok := impl.TableFar(f, g); !ok || far != c.far {
			t.Errorf("TableFar of %v and %v is %d, %v, want %d", f, g, far, ok, c.far)
		}
	}
}

func wantNotFar(t *testing.T, f, g impl.Family) {
	t.Helper()
	wantFailed(t, "TableFar", ofNumber(impl.TableFar(f, g)))
	wantFailed(t, "TableFar", ofNumber(impl.TableFar(g, f)))
}

func TestTableFarFails(t *testing.T) {
	pairs := [][2]impl.Family{
		// one has more members or clubs, but none of them has anything
		{{Members: 1}, {Members: 2}},
		{{Members: 2, Clubs: []int{1}}, {Members: 3, Clubs: []int{1}}},
		{{Members: 2}, {Members: 2, Clubs: []int{0}}},
		{{Members: 2, Clubs: []int{1, 2}}, {Members: 2, Clubs: []int{1, 2, 0}}},
		// other degrees, other sizes, the same ones in another order
		{{Members: 2, Clubs: []int{1}}, {Members: 2, Clubs: []int{2}}},
		{{Members: 3, Clubs: []int{1, 2}}, {Members: 3, Clubs: []int{1, 4}}},
		{{Members: 2, Clubs: []int{0}}, {Members: 2, Clubs: []int{3}}},
		{{Members: 2, Clubs: []int{0, 3}}, {Members: 2, Clubs: []int{3, 0}}},
		{{Members: 2, Clubs: []int{0, 3}}, {Members: 2, Clubs: []int{1, 2}}},
		// five clubs, six members
		{{Members: 5, Clubs: []int{1, 2, 4, 8, 16}}, {Members: 5, Clubs: []int{1, 2, 4, 8, 16}}},
		{{Members: 1, Clubs: []int{0, 0, 0, 0, 0}}, {Members: 1, Clubs: []int{0, 0, 0, 0, 0}}},
		{{Members: 6}, {Members: 6}},
		{{Members: 6, Clubs: []int{1, 2}}, {Members: 6, Clubs: []int{2, 1}}},
	}
	for _, p := range pairs {
		wantNotFar(t, p[0], p[1])
	}
	for _, great := range greatFamilies() {
		wantNotFar(t, great, great)
		wantNotFar(t, great, impl.Family{Members: 5, Clubs: []int{1, 2}})
	}
}

func TestTableFarOfNoFamilies(t *testing.T) {
	for _, none := range noFamilies() {
		wantNotFar(t, none, none)
		wantNotFar(t, none, impl.Family{Members: 3, Clubs: []int{1, 2}})
		wantNotFar(t, none, impl.Family{Members: none.Members})
		wantNotFar(t, none, impl.Family{})
	}
}

func TestTableFarLeavesArgumentsAlone(t *testing.T) {
	wantBothUntouched(t, "TableFar", func(f, g impl.Family) { impl.TableFar(f, g) })
}
