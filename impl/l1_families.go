package impl

import (
	"iter"
	"math/bits"
	"slices"
)

// MembersMax is the greatest number of members.
const MembersMax = 6

// ClubsMax is the greatest number of clubs.
const ClubsMax = 8

// Family has members from 0 on and clubs, sets of them.
type Family struct {
	Members int
	Clubs   []int
}

// club is a type of its own so that a set is not mistaken for a member, a place or a count.
type club int

func (c club) has(member int) bool {
	return c>>member&1 == 1
}

func (c club) with(member int) club {
	return c | 1<<member
}

func (c club) without(member int) club {
	return c &^ (1 << member)
}

func (c club) partOf(d club) bool {
	return c&^d == 0
}

func (c club) meets(d club) bool {
	return c&d != 0
}

func (c club) size() int {
	return bits.OnesCount(uint(c))
}

// members yields the members in ascending order, which makes lists built from it ordered without sorting.
func (c club) members() iter.Seq[int] {
	return func(yield func(int) bool) {
		for rest := uint(c); rest != 0; rest &= rest - 1 {
			if !yield(bits.TrailingZeros(rest)) {
				return
			}
		}
	}
}

// parts yields all sets that are a part of c, itself, too, in ascending order.
func (c club) parts() iter.Seq[club] {
	return func(yield func(club) bool) {
		// Taking c off adds 1 and all members that are not in c: these carry the 1 on to the next member that is.
		for part := club(0); yield(part) && part != c; part = (part - c) & c {
		}
	}
}

// named needs names that were checked: a place outside p would be out of range.
func (c club) named(p []int) club {
	var made club
	for member := range c.members() {
		made = made.with(p[member])
	}
	return made
}

// setIn needs a number of members that was checked: a negative one would stop the shift.
func setIn(members int, set int) bool {
	return set >= 0 && set < 1<<members
}

// namesIn counts each number once; with as many numbers as members none is left out then.
func namesIn(members int, p []int) bool {
	if len(p) != members {
		return false
	}
	var met club
	for _, name := range p {
		if name < 0 || name >= members || met.has(name) {
			return false
		}
		met = met.with(name)
	}
	return true
}

func (f Family) full() club {
	return 1<<f.Members - 1
}

// places is the set of the places of all clubs.
func (f Family) places() club {
	return 1<<len(f.Clubs) - 1
}

// together has all members of the clubs at some places.
func (f Family) together(places club) club {
	var all club
	for place := range places.members() {
		all |= club(f.Clubs[place])
	}
	return all
}

// clubs yields copies: what ranges over it cannot change the argument's clubs.
func (f Family) clubs() iter.Seq2[int, club] {
	return func(yield func(int, club) bool) {
		for place, set := range f.Clubs {
			if !yield(place, club(set)) {
				return
			}
		}
	}
}

// mapped writes to a new list, so that the result shares no memory with the family.
func (f Family) mapped(change func(club) club) Family {
	made := make([]int, 0, len(f.Clubs))
	for _, c := range f.clubs() {
		made = append(made, int(change(c)))
	}
	return Family{Members: f.Members, Clubs: made}
}

// without asks beats of different sets only: equal clubs are not counted as others, and would drop each other.
func (f Family) without(beats func(other, c club) bool) Family {
	beaten := func(set int) bool {
		for _, other := range f.clubs() {
			if other != club(set) && beats(other, club(set)) {
				return true
			}
		}
		return false
	}
	kept := f.simple()
	kept.Clubs = slices.DeleteFunc(kept.Clubs, beaten)
	return kept
}

// simple sorts a copy: sorting the clubs themselves would modify the argument.
func (f Family) simple() Family {
	made := f.mapped(func(c club) club { return c })
	slices.Sort(made.Clubs)
	made.Clubs = slices.Compact(made.Clubs)
	return made
}

// least and other take lists of more than ClubsMax sets, too.
func (f Family) least() Family {
	return f.without(func(other, c club) bool { return other.partOf(c) })
}

func (f Family) greatest() Family {
	return f.without(func(other, c club) bool { return c.partOf(other) })
}

func (f Family) other() Family {
	return f.mapped(func(c club) club { return f.full() &^ c })
}

func (f Family) only(set club) Family {
	return f.mapped(func(c club) club { return c & set })
}

func (f Family) takenOut(member int) Family {
	return f.only(f.full().without(member))
}

func (f Family) sizes() []int {
	sizes := make([]int, 0, len(f.Clubs))
	for _, c := range f.clubs() {
		sizes = append(sizes, c.size())
	}
	return sizes
}

// turned has clubs as members, and members as clubs. Of more clubs than MembersMax, or none, it makes what is no family, but has pairs and tied sets all the same.
func (f Family) turned() Family {
	made := make([]int, f.Members)
	for place, c := range f.clubs() {
		for member := range c.members() {
			made[member] = int(club(made[member]).with(place))
		}
	}
	return Family{Members: len(f.Clubs), Clubs: made}
}

// reached grows until no club adds a member, because a club may lead on to clubs ahead of it.
func (f Family) reached(from club) club {
	for {
		before := from
		for _, c := range f.clubs() {
			if c.meets(from) {
				from |= c
			}
		}
		if from == before {
			return from
		}
	}
}

// FamilyIn reports whether a family is one.
func FamilyIn(f Family) bool {
	if f.Members < 1 || f.Members > MembersMax || len(f.Clubs) > ClubsMax {
		return false
	}
	for _, set := range f.Clubs {
		if !setIn(f.Members, set) {
			return false
		}
	}
	return true
}

// FamilyDegrees returns, for each member, the number of clubs that have it, and true.
func FamilyDegrees(f Family) ([]int, bool) {
	if !FamilyIn(f) {
		return nil, false
	}
	degrees := make([]int, f.Members)
	for _, c := range f.clubs() {
		for member := range c.members() {
			degrees[member]++
		}
	}
	return degrees, true
}

// FamilySizes returns the number of members of each club, in order, and true.
func FamilySizes(f Family) ([]int, bool) {
	if !FamilyIn(f) {
		return nil, false
	}
	return f.sizes(), true
}

// FamilyDual returns the family whose members are the places of the clubs of a family, and whose clubs are, for each member in order, the set of the clubs that have it, and true.
func FamilyDual(f Family) (Family, bool) {
	if !FamilyIn(f) || len(f.Clubs) < 1 || len(f.Clubs) > MembersMax {
		return Family{}, false
	}
	return f.turned(), true
}

// FamilyMeet returns the family whose clubs have only those members of each club that are in a set, and true.
func FamilyMeet(f Family, set int) (Family, bool) {
	if !FamilyIn(f) || !setIn(f.Members, set) {
		return Family{}, false
	}
	return f.only(club(set)), true
}

// FamilyPut returns the family with a set put behind its clubs, and true.
func FamilyPut(f Family, set int) (Family, bool) {
	if !FamilyIn(f) || !setIn(f.Members, set) || len(f.Clubs) == ClubsMax {
		return Family{}, false
	}
	return Family{Members: f.Members, Clubs: slices.Concat(f.Clubs, []int{set})}, true
}

// FamilyDrop returns the family without the club at a place, and true.
func FamilyDrop(f Family, place int) (Family, bool) {
	if !FamilyIn(f) || place < 0 || place >= len(f.Clubs) {
		return Family{}, false
	}
	return Family{Members: f.Members, Clubs: slices.Concat(f.Clubs[:place], f.Clubs[place+1:])}, true
}

// FamilySimple returns the family with each of its clubs once, in ascending order, and true.
func FamilySimple(f Family) (Family, bool) {
	if !FamilyIn(f) {
		return Family{}, false
	}
	return f.simple(), true
}

// FamilyLeast returns the family of those clubs that no other one is a part of, each one once, in ascending order, and true.
func FamilyLeast(f Family) (Family, bool) {
	if !FamilyIn(f) {
		return Family{}, false
	}
	return f.least(), true
}

// FamilyGreatest returns the family of those clubs that are no part of another one, each one once, in ascending order, and true.
func FamilyGreatest(f Family) (Family, bool) {
	if !FamilyIn(f) {
		return Family{}, false
	}
	return f.greatest(), true
}

// FamilyOther returns the family that has, for each club, the set of all other members, and true.
func FamilyOther(f Family) (Family, bool) {
	if !FamilyIn(f) {
		return Family{}, false
	}
	return f.other(), true
}

// FamilyAll returns the set of all members of some club, and true.
func FamilyAll(f Family) (int, bool) {
	if !FamilyIn(f) {
		return 0, false
	}
	return int(f.together(f.places())), true
}

// FamilyCommon returns the set of the members that all clubs have, all members if there is no club, and true.
func FamilyCommon(f Family) (int, bool) {
	if !FamilyIn(f) {
		return 0, false
	}
	common := f.full()
	for _, c := range f.clubs() {
		common &= c
	}
	return int(common), true
}

// FamilyNamed returns the family in which the member i is called as the number at the place i of names tells, and true.
func FamilyNamed(f Family, p []int) (Family, bool) {
	if !FamilyIn(f) || !namesIn(f.Members, p) {
		return Family{}, false
	}
	return f.mapped(func(c club) club { return c.named(p) }), true
}

// FamilyParts returns the number of parts of the members, two being in one part if clubs lead from one to the other one, each two beside each other in one club, and true.
func FamilyParts(f Family) (int, bool) {
	if !FamilyIn(f) {
		return 0, false
	}
	parts := 0
	var met club
	for member := range f.full().members() {
		if !met.has(member) {
			met |= f.reached(club(0).with(member))
			parts++
		}
	}
	return parts, true
}
