package tests

import (
	"fmt"
	"slices"
	"testing"

	"loop.example/clubsandmembers/impl"
)

// The promises of chapter 3, one test for each, held against families that are tried here one by one.

// sizedClubs has all lists of clubs of some sizes, in the order in which lists are compared.
func sizedClubs(sizes []int, members int) [][]int {
	made := [][]int{{}}
	for _, size := range sizes {
		var longer [][]int
		for _, clubs := range made {
			for set := 0; set < 1<<members; set++ {
				if countedSizes(impl.Family{Members: members, Clubs: []int{set}})[0] == size {
					longer = append(longer, append(slices.Clone(clubs), set))
				}
			}
		}
		made = longer
	}
	return made
}

// triedTables looks at the degrees last, when all clubs are there.
func triedTables(sizes, degrees []int) []impl.Family {
	var made []impl.Family
	for _, clubs := range sizedClubs(sizes, len(degrees)) {
		f := impl.Family{Members: len(degrees), Clubs: clubs}
		if slices.Equal(countedDegrees(f), degrees) {
			made = append(made, f)
		}
	}
	return made
}

// toldLists has all lists of least to most numbers that are at most 5.
func toldLists(least, most int) [][]int {
	var all [][]int
	made := [][]int{{}}
	for length := 0; length <= most; length++ {
		if length >= least {
			all = append(all, made...)
		}
		var longer [][]int
		for _, list := range made {
			for x := 0; x <= 5; x++ {
				longer = append(longer, append(slices.Clone(list), x))
			}
		}
		made = longer
	}
	return all
}

// tablePairs are sizes and degrees: all short ones, those of greater families, and others that nearly are.
func tablePairs() [][2][]int {
	var pairs [][2][]int
	for _, sizes := range toldLists(0, 3) {
		for _, degrees := range toldLists(1, 2) {
			pairs = append(pairs, [2][]int{sizes, degrees})
		}
	}
	for _, f := range tableSamples(5) {
		sizes, degrees := countedSizes(f), countedDegrees(f)
		pairs = append(pairs, [2][]int{sizes, degrees})
		for _, near := range [][]int{nearList(sizes, 1, -1), nearList(sizes, -1, 1), nearList(sizes, 1, 0)} {
			pairs = append(pairs, [2][]int{near, degrees})
		}
		pairs = append(pairs, [2][]int{sizes, nearList(degrees, 1, -1)}, [2][]int{sizes, nearList(degrees, -1, 0)})
	}
	return pairs
}

// nearList changes the first number and the last one, as far as the list is told then.
func nearList(list []int, first, last int) []int {
	near := slices.Clone(list)
	if len(near) > 1 {
		near[0] = min(max(near[0]+first, 0), 5)
		near[len(near)-1] = min(max(near[len(near)-1]+last, 0), 5)
	}
	return near
}

func tableSamples(clubs int) []impl.Family {
	return slices.DeleteFunc(samples(), func(f impl.Family) bool { return f.Members > 5 || len(f.Clubs) > clubs })
}

func TestPromise21TablesThatAre(t *testing.T) {
	for _, p := range tablePairs() {
		is := impl.TableIs(p[0], p[1])
		if tried := triedTables(p[0], p[1]); is != (len(tried) > 0) {
			t.Errorf("TableIs of %v and %v is %v, and tried %d", p[0], p[1], is, len(tried))
		}
		_, ok := impl.TableFirst(p[0], p[1])
		many, told := impl.TableMany(p[0], p[1])
		if ok != is || !told || is && many == 0 {
			t.Errorf("TableIs of %v and %v is %v, TableFirst tells %v, and TableMany is %d, %v", p[0], p[1], is, ok, many, told)
		}
	}
}

func TestPromise22FirstHasSizesAndDegrees(t *testing.T) {
	for _, p := range tablePairs() {
		first, ok := impl.TableFirst(p[0], p[1])
		if !ok {
			wantFailed(t, "TableFirst", ofFamily(first, ok))
			continue
		}
		if !impl.TableIs(p[0], p[1]) {
			t.Errorf("TableFirst of %v and %v is %v, but TableIs does not hold", p[0], p[1], first)
		}
		wantList(t, "FamilySizes", first, told(t, first, impl.FamilySizes), p[0])
		wantList(t, "FamilyDegrees", first, told(t, first, impl.FamilyDegrees), p[1])
		wantClubs(t, "TableFirst", first, first, triedTables(p[0], p[1])[0].Clubs)
	}
}

func backList(list []int) []int {
	back := slices.Clone(list)
	slices.Reverse(back)
	return back
}

func wantMany(t *testing.T, sizes, degrees []int, want int) {
	t.Helper()
	if many, ok := impl.TableMany(sizes, degrees); !ok || many != want {
		t.Errorf("TableMany of %v and %v is %d, %v, want %d", sizes, degrees, many, ok, want)
	}
}

func TestPromise23ManyTables(t *testing.T) {
	for _, p := range tablePairs() {
		sizes, degrees := p[0], p[1]
		many := len(triedTables(sizes, degrees))
		wantMany(t, sizes, degrees, many)
		wantMany(t, backList(sizes), backList(degrees), many)
		if len(sizes) > 0 {
			wantMany(t, degrees, sizes, many)
		}
		if is := impl.TableIs(sizes, degrees); is != (many != 0) {
			t.Errorf("TableIs of %v and %v is %v, and there are %d", sizes, degrees, is, many)
		}
	}
}

func TestPromise24Steps(t *testing.T) {
	for _, degrees := range toldLists(1, 5) {
		steps, ok := impl.TableSteps(degrees)
		if !ok || len(steps) != 5 || sum(steps) != sum(degrees) {
			t.Fatalf("TableSteps of %v is %v, %v", degrees, steps, ok)
		}
		for k := 1; k <= 5; k++ {
			most := len(degrees)
			for _, degree := range degrees {
				if degree < k {
					most--
				}
			}
			if steps[k-1] != most || k > 1 && steps[k-1] > steps[k-2] {
				t.Errorf("TableSteps of %v is %v", degrees, steps)
			}
		}
		wantMany(t, steps, degrees, 1)
	}
}

// triedSwitches goes through places and members as the document tells a switch, and so makes each one twice.
func triedSwitches(f impl.Family) [][]int {
	var made [][]int
	for i, first := range f.Clubs {
		for k, second := range f.Clubs {
			for v := range f.Members {
				for w := range f.Members {
					if isIn(first, v) && !isIn(first, w) && isIn(second, w) && !isIn(second, v) {
						clubs := slices.Clone(f.Clubs)
						clubs[i] += 1<<w - 1<<v
						clubs[k] += 1<<v - 1<<w
						made = append(made, clubs)
					}
				}
			}
		}
	}
	slices.SortFunc(made, slices.Compare)
	return slices.CompactFunc(made, slices.Equal)
}

func TestPromise25Switches(t *testing.T) {
	for _, f := range tableSamples(5) {
		sizes, degrees := countedSizes(f), countedDegrees(f)
		switched := told(t, f, impl.TableSwitches)
		tried := triedSwitches(f)
		if len(switched) != len(tried) {
			t.Fatalf("TableSwitches of %v are %v, want %v", f, switched, tried)
		}
		for place, g := range switched {
			wantClubs(t, "one of TableSwitches", f, g, tried[place])
			wantList(t, "FamilySizes of one of TableSwitches", f, told(t, g, impl.FamilySizes), sizes)
			wantList(t, "FamilyDegrees of one of TableSwitches", f, told(t, g, impl.FamilyDegrees), degrees)
			if far, ok := impl.TableFar(f, g); ok != (len(f.Clubs) <= 4) || ok && far != 1 {
				t.Errorf("TableFar of %v and %v is %d, %v", f, g, far, ok)
			}
		}
		if many, _ := impl.TableMany(sizes, degrees); (many == 1) != (len(switched) == 0) {
			t.Errorf("TableSwitches of %v are %v, and TableMany is %d", f, switched, many)
		}
	}
}

// triedFar has, for each list of clubs, how many switches lead to it: each round makes one switch of all lists so far.
func triedFar(f impl.Family) map[string]int {
	far := map[string]int{fmt.Sprint(f.Clubs): 0}
	round := []impl.Family{f}
	for steps := 1; len(round) > 0; steps++ {
		var next []impl.Family
		for _, from := range round {
			for _, clubs := range triedSwitches(from) {
				if _, met := far[fmt.Sprint(clubs)]; !met {
					far[fmt.Sprint(clubs)] = steps
					next = append(next, impl.Family{Members: f.Members, Clubs: clubs})
				}
			}
		}
		round = next
	}
	return far
}

func countedDifferences(f, g impl.Family) int {
	many := 0
	for place := range f.Clubs {
		for member := range f.Members {
			if isIn(f.Clubs[place], member) != isIn(g.Clubs[place], member) {
				many++
			}
		}
	}
	return many
}

func TestPromise26Far(t *testing.T) {
	for _, f := range tableSamples(4) {
		tried := triedFar(f)
		others := triedTables(countedSizes(f), countedDegrees(f))
		for place := 0; place < len(others); place += 1 + len(others)/20 {
			g := others[place]
			far, ok := impl.TableFar(f, g)
			if want, met := tried[fmt.Sprint(g.Clubs)]; !ok || !met || far != want {
				t.Errorf("TableFar of %v and %v is %d, %v, want %d, %v", f, g, far, ok, want, met)
			}
			if back, ok := impl.TableFar(g, f); !ok || back != far {
				t.Errorf("TableFar of %v and %v is %d, and %d exchanged", f, g, far, back)
			}
			if (far == 0) != slices.Equal(f.Clubs, g.Clubs) || 2*far > countedDifferences(f, g) {
				t.Errorf("TableFar of %v and %v is %d", f, g, far)
			}
		}
	}
}
