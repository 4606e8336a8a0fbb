package tests

import (
	"slices"
	"testing"

	"loop.example/clubsandmembers/impl"
)

// The promises of chapter 2, one test for each, held against names that are tried here one by one.

// triedNames has all names in the order in which lists are compared, by the number of members.
var triedNames = func() (all [impl.MembersMax + 1][][]int) {
	for members := range all {
		all[members] = manyNames(members)
	}
	return all
}()

// renamedClubs asks for each name whose it is, the other way round than the program, and returns sorted clubs.
func renamedClubs(f impl.Family, p []int) []int {
	var made []int
	for _, set := range f.Clubs {
		renamed := 0
		for name := 0; name < f.Members; name++ {
			if isIn(set, slices.Index(p, name)) {
				renamed += 1 << name
			}
		}
		made = append(made, renamed)
	}
	slices.Sort(made)
	return made
}

func triedLeast(f impl.Family) (least, names []int) {
	for _, p := range triedNames[f.Members] {
		made := renamedClubs(f, p)
		if names == nil || slices.Compare(made, least) < 0 {
			least, names = made, p
		}
	}
	return least, names
}

// keepingNames are those that make the clubs of a family its own.
func keepingNames(f impl.Family) [][]int {
	var keeping [][]int
	for _, p := range triedNames[f.Members] {
		if slices.Equal(renamedClubs(f, p), sortedClubs(f)) {
			keeping = append(keeping, p)
		}
	}
	return keeping
}

func triedAlike(f, g impl.Family) bool {
	return f.Members == g.Members && slices.ContainsFunc(triedNames[f.Members], func(p []int) bool {
		return slices.Equal(renamedClubs(f, p), sortedClubs(g))
	})
}

func renamedBy(f impl.Family, p []int) impl.Family {
	made := impl.Family{Members: f.Members, Clubs: renamedClubs(f, p)}
	slices.Reverse(made.Clubs)
	return made
}

// smallFamilies have many pairs of families that are alike, and many that are only nearly so.
func smallFamilies() []impl.Family {
	return slices.Concat(
		everyFamily(1, 0), everyFamily(1, 3), everyFamily(2, 0), everyFamily(2, 1), everyFamily(2, 2), everyFamily(2, 3),
		everyFamily(3, 0), everyFamily(3, 1), everyFamily(3, 2), everyFamily(4, 1))
}

func wantPromise16(t *testing.T, f, g impl.Family) {
	t.Helper()
	if !impl.AlikeIn(g, f) {
		t.Errorf("AlikeIn holds for %v and %v, but not exchanged", f, g)
	}
	if !impl.AlikeIn(told(t, f, impl.FamilyOther), told(t, g, impl.FamilyOther)) {
		t.Errorf("AlikeIn holds for %v and %v, but not for FamilyOther of both", f, g)
	}
	for _, call := range []func(impl.Family) ([]int, bool){impl.FamilySizes, impl.FamilyDegrees} {
		mine, others := told(t, f, call), told(t, g, call)
		slices.Sort(mine)
		slices.Sort(others)
		wantList(t, "the sorted sizes or degrees", f, mine, others)
	}
}

func TestPromise16AlikeBothWays(t *testing.T) {
	for _, f := range smallFamilies() {
		for _, g := range smallFamilies() {
			alike := impl.AlikeIn(f, g)
			if alike != triedAlike(f, g) {
				t.Errorf("AlikeIn of %v and %v is %v", f, g, alike)
			}
			if alike {
				wantPromise16(t, f, g)
			}
		}
	}
}

func TestPromise16AlikeByNames(t *testing.T) {
	for _, f := range samples() {
		for _, p := range someNames(f.Members) {
			g := renamedBy(f, p)
			if !impl.AlikeIn(f, g) {
				t.Errorf("AlikeIn does not hold for %v and %v", f, g)
			}
			wantPromise16(t, f, g)
		}
	}
}

// One club moved to the place of another one, or one member to another club: sets are the same, or sizes and degrees nearly.
func TestPromise16NearlyAlike(t *testing.T) {
	for _, f := range samples() {
		if f.Members < 4 || len(f.Clubs) < 2 {
			continue
		}
		doubled, moved := renamedBy(f, backwards(f.Members)), renamedBy(f, backwards(f.Members))
		doubled.Clubs[0] = doubled.Clubs[1]
		moved.Clubs[0], moved.Clubs[1] = moved.Clubs[0]^1, moved.Clubs[1]^1
		for _, g := range []impl.Family{doubled, moved} {
			wantAlike(t, f, g, triedAlike(f, g))
		}
	}
}

func TestPromise17LeastIsItsOwn(t *testing.T) {
	for _, f := range samples() {
		least := told(t, f, impl.AlikeLeast)
		wantClubs(t, "AlikeLeast of AlikeLeast", f, told(t, least, impl.AlikeLeast), least.Clubs)
		if !impl.AlikeIn(f, least) {
			t.Errorf("AlikeLeast of %v is %v, and not alike", f, least)
		}
		want, _ := triedLeast(f)
		wantClubs(t, "AlikeLeast", f, least, want)
	}
}

func TestPromise18NamesMakeTheLeastList(t *testing.T) {
	for _, f := range samples() {
		names := told(t, f, impl.AlikeNames)
		named := told(t, f, func(f impl.Family) (impl.Family, bool) { return impl.FamilyNamed(f, names) })
		wantList(t, "FamilyNamed by AlikeNames, sorted,", f, sortedClubs(named), told(t, f, impl.AlikeLeast).Clubs)
		_, want := triedLeast(f)
		wantList(t, "AlikeNames", f, names, want)
	}
}

func TestPromise19SameDividesTheFactorial(t *testing.T) {
	for _, f := range samples() {
		same := told(t, f, impl.AlikeSame)
		wantNumber(t, "AlikeSame", f, same, len(keepingNames(f)))
		if same < 1 || len(triedNames[f.Members])%same != 0 {
			t.Errorf("AlikeSame of %v is %d", f, same)
		}
		wantNumber(t, "AlikeSame of FamilyOther", f, told(t, told(t, f, impl.FamilyOther), impl.AlikeSame), same)
	}
}

func TestPromise20OrbitsHaveAllMembers(t *testing.T) {
	for _, f := range samples() {
		orbits, degrees, same := told(t, f, impl.AlikeOrbits), countedDegrees(f), told(t, f, impl.AlikeSame)
		wantNumber(t, "the sum of AlikeOrbits", f, sum(orbits), 1<<f.Members-1)
		for _, size := range countedSizes(impl.Family{Members: f.Members, Clubs: orbits}) {
			if size < 1 || same%size != 0 {
				t.Errorf("AlikeOrbits of %v are %v, and AlikeSame is %d", f, orbits, same)
			}
		}
		seen, keeping := 0, keepingNames(f)
		for _, orbit := range orbits {
			first := slices.IndexFunc(triedNames[f.Members][0], func(m int) bool { return isIn(orbit, m) })
			if first < seen {
				t.Errorf("AlikeOrbits of %v are %v: not in the order of their least members", f, orbits)
			}
			seen = first
			wantNumber(t, "an orbit", f, orbit, membersWith(f, func(m int) bool {
				return slices.ContainsFunc(keeping, func(p []int) bool { return p[first] == m })
			}))
			if membersWith(f, func(m int) bool { return isIn(orbit, m) && degrees[m] != degrees[first] }) != 0 {
				t.Errorf("AlikeOrbits of %v are %v, with degrees %v", f, orbits, degrees)
			}
		}
	}
}
