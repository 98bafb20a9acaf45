package tests

import (
	"slices"
	"testing"

	"loop.example/mailcoaches/impl"
)

// partMark stands where no function may write.
var partMark = impl.Part{Owner: -7, Miles: -7}

// callAllOwners calls all functions of the chapter with two roads and what was taken, overwrites all results, and calls a check after each.
func callAllOwners(parts []impl.Part, other []impl.Part, taken []int, from int, to int, check func(name string)) {
	plain, _ := impl.PartsPlain(parts)
	overwrite(plain, partMark)
	check("PartsPlain")
	for owner := range impl.OwnersMax {
		sold, _ := impl.PartsSell(parts, from, to, owner)
		overwrite(sold, partMark)
		check("PartsSell")
	}
	turned, _ := impl.PartsTurn(parts)
	overwrite(turned, partMark)
	check("PartsTurn")
	for _, lists := range [][2][]impl.Part{{parts, other}, {other, parts}, {parts, parts}} {
		joined, _ := impl.PartsJoin(lists[0], lists[1])
		overwrite(joined, partMark)
		check("PartsJoin")
	}
	miles, _ := impl.PartsMiles(parts)
	overwrite(miles, -7)
	check("PartsMiles")
	shares, _ := impl.ShareMake(parts, 10)
	overwrite(shares, -7)
	check("ShareMake")
	due, _ := impl.ShareDue(parts, 10)
	overwrite(due, -7)
	check("ShareDue")
	ride, _ := impl.ShareRide(parts, from, to, 10)
	overwrite(ride, -7)
	check("ShareRide")
	settled, _ := impl.ShareSettle(parts, taken)
	overwrite(settled, -7)
	check("ShareSettle")
	impl.PartsValid(parts)
	impl.PartsLength(parts)
	impl.PartsOwner(parts, from)
	check("one of the functions without a list as its result")
}

// TestArgumentsOfOwners checks that no argument is written into, and that no result shares memory with an argument.
func TestArgumentsOfOwners(t *testing.T) {
	for _, c := range slices.Concat(namedRoads(), mixedParts(60), noRoads()) {
		for _, amounts := range [][]int{{0, 0, 0, 0, 0, 0}, {9, 0, 3, 0, 0, 70}, {1, -1, 0, 0, 0, 0}, {5, 5}} {
			parts, partsMemory := roomy(c.parts, impl.Part{Owner: 4, Miles: 70})
			other, otherMemory := roomy(plainParts(), impl.Part{Owner: 4, Miles: 70})
			taken, takenMemory := roomy(amounts, 70)
			partsBefore, otherBefore, takenBefore := slices.Clone(partsMemory), slices.Clone(otherMemory), slices.Clone(takenMemory)
			check := func(name string) {
				if !slices.Equal(partsMemory, partsBefore) || !slices.Equal(otherMemory, otherBefore) || !slices.Equal(takenMemory, takenBefore) {
					t.Fatalf("%s: after %s the parts are %v and %v, and what was taken %v", c.name, name, partsMemory, otherMemory, takenMemory)
				}
			}
			length := impl.PartsLength(c.parts)
			for _, s := range [][2]int{{0, 1}, {0, length}, {length - 1, length}, {length / 2, length/2 + 1}, {1, 0}} {
				callAllOwners(parts, other, taken, s[0], s[1], check)
			}
		}
	}
}

// TestResultsOfOwners checks that nothing is kept from call to call.
func TestResultsOfOwners(t *testing.T) {
	eachParts(t, func(t *testing.T, c partedRoad) {
		checkAgain(t, "PartsTurn", partMark, func() ([]impl.Part, bool) { return impl.PartsTurn(c.parts) })
		checkAgain(t, "PartsMiles", -7, func() ([]int, bool) { return impl.PartsMiles(c.parts) })
		checkAgain(t, "ShareMake", -7, func() ([]int, bool) { return impl.ShareMake(c.parts, 10) })
		checkAgain(t, "ShareDue", -7, func() ([]int, bool) { return impl.ShareDue(c.parts, 10) })
		checkAgain(t, "ShareRide", -7, func() ([]int, bool) { return impl.ShareRide(c.parts, 0, 1, 10) })
		checkAgain(t, "ShareSettle", -7, func() ([]int, bool) { return impl.ShareSettle(c.parts, []int{1, 0, 5, 0, 0, 4}) })
		if _, ok := modelPlain(modelOwners(c.parts)); ok {
			checkAgain(t, "PartsPlain", partMark, func() ([]impl.Part, bool) { return impl.PartsPlain(c.parts) })
			owner := c.parts[0].Owner
			checkAgain(t, "PartsSell", partMark, func() ([]impl.Part, bool) { return impl.PartsSell(c.parts, 0, 1, owner) })
		}
		if len(c.parts) < 10 {
			checkAgain(t, "PartsJoin", partMark, func() ([]impl.Part, bool) { return impl.PartsJoin(c.parts, plainParts()) })
		}
	})
}
