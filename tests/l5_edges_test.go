package tests

import (
	"math"
	"slices"
	"testing"

	"loop.example/mailcoaches/impl"
)

func TestConstantsOfOwners(t *testing.T) {
	if impl.OwnersMax != 6 || impl.AmountMax != 1000000 {
		t.Errorf("the constants are %d and %d", impl.OwnersMax, impl.AmountMax)
	}
}

func TestListsThatAreRoads(t *testing.T) {
	for _, c := range allParts() {
		if !impl.PartsValid(c.parts) {
			t.Errorf("%s: PartsValid does not hold for %v", c.name, c.parts)
		}
	}
}

func TestListsThatAreNoRoads(t *testing.T) {
	for _, c := range noRoads() {
		if impl.PartsValid(c.parts) {
			t.Errorf("%s: PartsValid holds", c.name)
		}
		if length := impl.PartsLength(c.parts); length != -1 {
			t.Errorf("%s: PartsLength is %d", c.name, length)
		}
		for _, mile := range append(farNumbers(), -1, 0, 1, 6, 7) {
			checkNoOwner(t, c, mile)
		}
		if miles, ok := impl.PartsMiles(c.parts); ok || len(miles) > 0 {
			t.Errorf("%s: PartsMiles gives %v and %v", c.name, miles, ok)
		}
		if plain, ok := impl.PartsPlain(c.parts); ok || len(plain) > 0 {
			t.Errorf("%s: PartsPlain gives %v and %v", c.name, plain, ok)
		}
		if turned, ok := impl.PartsTurn(c.parts); ok || len(turned) > 0 {
			t.Errorf("%s: PartsTurn gives %v and %v", c.name, turned, ok)
		}
		for _, other := range [][]impl.Part{plainParts(), oneOwner(0, 1), c.parts, nil} {
			checkNoJoin(t, c.parts, other)
			checkNoJoin(t, other, c.parts)
		}
		for _, s := range [][2]int{{0, 1}, {0, 7}, {1, 3}, {0, 0}, {-1, 0}} {
			checkNoSale(t, c.parts, s[0], s[1], 2)
			checkNoRide(t, c.parts, s[0], s[1], 10)
		}
		for _, amount := range []int{0, 1, 1000000, -1} {
			checkNoShares(t, c.parts, amount)
		}
		checkNoSettlement(t, c.parts, make([]int, 6))
		checkNoSettlement(t, c.parts, []int{1, 2, 3, 4, 5, 6})
		checkNoSettlement(t, c.parts, nil)
	}
}

// checkNoOwner checks that there is no such mile.
func checkNoOwner(t *testing.T, c partedRoad, mile int) {
	t.Helper()
	if owner, ok := impl.PartsOwner(c.parts, mile); ok || owner != 0 {
		t.Errorf("%s: PartsOwner of the mile %d gives %d and %v", c.name, mile, owner, ok)
	}
}

// checkNoJoin checks that two lists cannot be joined.
func checkNoJoin(t *testing.T, a []impl.Part, b []impl.Part) {
	t.Helper()
	if joined, ok := impl.PartsJoin(a, b); ok || len(joined) > 0 {
		t.Errorf("PartsJoin of %v and %v gives %v and %v", a, b, joined, ok)
	}
}

// checkNoSale checks that miles cannot be sold.
func checkNoSale(t *testing.T, parts []impl.Part, from int, to int, owner int) {
	t.Helper()
	if sold, ok := impl.PartsSell(parts, from, to, owner); ok || len(sold) > 0 {
		t.Errorf("PartsSell of %v from %d to %d to %d gives %v and %v", parts, from, to, owner, sold, ok)
	}
}

// checkSale checks what a road is when miles are sold.
func checkSale(t *testing.T, parts []impl.Part, from int, to int, owner int, want []impl.Part) {
	t.Helper()
	if sold, ok := impl.PartsSell(parts, from, to, owner); !ok || !slices.Equal(sold, want) {
		t.Errorf("PartsSell of %v from %d to %d to %d gives %v and %v, want %v", parts, from, to, owner, sold, ok, want)
	}
}

// checkNoShares checks that an amount cannot be shared, and nothing is due of it.
func checkNoShares(t *testing.T, parts []impl.Part, amount int) {
	t.Helper()
	if shares, ok := impl.ShareMake(parts, amount); ok || len(shares) > 0 {
		t.Errorf("ShareMake of %d on %v gives %v and %v", amount, parts, shares, ok)
	}
	if due, ok := impl.ShareDue(parts, amount); ok || len(due) > 0 {
		t.Errorf("ShareDue of %d on %v gives %v and %v", amount, parts, due, ok)
	}
}

// checkNoRide checks that an amount cannot be shared for a ride.
func checkNoRide(t *testing.T, parts []impl.Part, from int, to int, amount int) {
	t.Helper()
	if shares, ok := impl.ShareRide(parts, from, to, amount); ok || len(shares) > 0 {
		t.Errorf("ShareRide of %d on %v from %d to %d gives %v and %v", amount, parts, from, to, shares, ok)
	}
}

// checkNoSettlement checks that what was taken cannot be settled.
func checkNoSettlement(t *testing.T, parts []impl.Part, taken []int) {
	t.Helper()
	if settled, ok := impl.ShareSettle(parts, taken); ok || len(settled) > 0 {
		t.Errorf("ShareSettle of %v on %v gives %v and %v", taken, parts, settled, ok)
	}
}

func TestPartsAtLimits(t *testing.T) {
	for number := range 15 {
		for owner := -1; owner <= 6; owner++ {
			for _, miles := range []int{0, 1, 2, 98, 99, 100} {
				parts := slices.Repeat([]impl.Part{{Owner: owner, Miles: miles}}, number)
				fits := 1 <= number && number <= 12 && 0 <= owner && owner <= 5 && 1 <= miles && miles <= 99
				if got := impl.PartsValid(parts); got != fits {
					t.Errorf("PartsValid of %v: got %v", parts, got)
				}
				length := -1
				if fits {
					length = number * miles
				}
				if got := impl.PartsLength(parts); got != length {
					t.Errorf("PartsLength of %v: got %d", parts, got)
				}
			}
		}
	}
}

func TestMilesOfProprietors(t *testing.T) {
	for _, c := range []struct {
		parts []impl.Part
		want  []int
	}{
		{plainParts(), []int{4, 3, 0, 0, 0, 0}},
		{pairedParts(), []int{7, 0, 5, 0, 0, 7}},
		{oneOwner(0, 1), []int{1, 0, 0, 0, 0, 0}},
		{oneOwner(5, 99), []int{0, 0, 0, 0, 0, 99}},
		{twelveParts(1), []int{2, 2, 2, 2, 2, 2}},
		{twelveParts(99), []int{198, 198, 198, 198, 198, 198}},
		{oneOwner(3, slices.Repeat([]int{99}, 12)...), []int{0, 0, 0, 1188, 0, 0}},
		{milesEach(1, 2, 3, 4, 5, 6, 7, 8, 9, 10, 11, 12), []int{8, 10, 12, 14, 16, 18}},
	} {
		got, ok := impl.PartsMiles(c.parts)
		numbersDiffer(t, "PartsMiles", got, ok, c.want)
		if length := impl.PartsLength(c.parts); length != sumOf(c.want) {
			t.Errorf("PartsLength of %v is %d", c.parts, length)
		}
	}
}

func TestOwnersOfMiles(t *testing.T) {
	for _, c := range []struct {
		parts []impl.Part
		miles map[int]int // the Owner of some miles
	}{
		{plainParts(), map[int]int{0: 0, 2: 0, 3: 1, 5: 1, 6: 0}},
		{pairedParts(), map[int]int{0: 2, 3: 2, 4: 2, 5: 5, 11: 5, 12: 0, 14: 0, 18: 0}},
		{oneOwner(4, 1), map[int]int{0: 4}},
		{oneOwner(4, 99), map[int]int{0: 4, 98: 4}},
		{twelveParts(1), map[int]int{0: 0, 5: 5, 6: 0, 11: 5}},
		{twelveParts(99), map[int]int{0: 0, 98: 0, 99: 1, 593: 5, 594: 0, 1088: 4, 1089: 5, 1187: 5}},
	} {
		for mile, want := range c.miles {
			if owner, ok := impl.PartsOwner(c.parts, mile); !ok || owner != want {
				t.Errorf("PartsOwner of the mile %d of %v gives %d and %v, want %d", mile, c.parts, owner, ok, want)
			}
		}
	}
	for _, c := range namedRoads() {
		length := len(modelOwners(c.parts))
		for _, mile := range append(farNumbers(), -1188, -2, -1, length, length+1, 1188, 1189) {
			checkNoOwner(t, c, mile)
		}
	}
}

func TestRoadsMadePlain(t *testing.T) {
	for _, c := range []struct {
		parts []impl.Part
		want  []impl.Part
	}{
		{plainParts(), plainParts()},
		{pairedParts(), []impl.Part{{Owner: 2, Miles: 5}, {Owner: 5, Miles: 7}, {Owner: 0, Miles: 7}}},
		{oneOwner(0, 1), oneOwner(0, 1)},
		{oneOwner(5, 99), oneOwner(5, 99)},
		{oneOwner(0, 1, 1), oneOwner(0, 2)},
		{oneOwner(4, 50, 49), oneOwner(4, 99)},
		{oneOwner(4, 98, 1), oneOwner(4, 99)},
		{oneOwner(4, 1, 98), oneOwner(4, 99)},
		{oneOwner(1, 33, 33, 33), oneOwner(1, 99)},
		{oneOwner(1, slices.Repeat([]int{8}, 12)...), oneOwner(1, 96)},
		{twelveParts(1), twelveParts(1)},
		{twelveParts(99), twelveParts(99)},
		{[]impl.Part{{Owner: 2, Miles: 99}, {Owner: 3, Miles: 1}, {Owner: 2, Miles: 99}}, []impl.Part{{Owner: 2, Miles: 99}, {Owner: 3, Miles: 1}, {Owner: 2, Miles: 99}}},
		{[]impl.Part{{Owner: 0, Miles: 1}, {Owner: 1, Miles: 2}, {Owner: 1, Miles: 3}, {Owner: 0, Miles: 4}, {Owner: 0, Miles: 5}}, []impl.Part{{Owner: 0, Miles: 1}, {Owner: 1, Miles: 5}, {Owner: 0, Miles: 9}}},
	} {
		if plain, ok := impl.PartsPlain(c.parts); !ok || !slices.Equal(plain, c.want) {
			t.Errorf("PartsPlain of %v gives %v and %v", c.parts, plain, ok)
		}
	}
	for _, parts := range [][]impl.Part{oneOwner(4, 50, 50), oneOwner(4, 99, 1), oneOwner(4, 1, 99), oneOwner(0, 99, 99), oneOwner(1, 33, 34, 33), oneOwner(1, slices.Repeat([]int{9}, 12)...), append(plainParts(), oneOwner(0, 99)...), append(oneOwner(0, 97), plainParts()...)} {
		if plain, ok := impl.PartsPlain(parts); ok || len(plain) > 0 {
			t.Errorf("PartsPlain of %v gives %v and %v", parts, plain, ok)
		}
	}
}

func TestSales(t *testing.T) {
	for _, c := range []struct {
		from, to, owner int
		want            []impl.Part
	}{
		{0, 1, 2, []impl.Part{{Owner: 2, Miles: 1}, {Owner: 0, Miles: 2}, {Owner: 1, Miles: 3}, {Owner: 0, Miles: 1}}},
		{0, 3, 2, []impl.Part{{Owner: 2, Miles: 3}, {Owner: 1, Miles: 3}, {Owner: 0, Miles: 1}}},
		{0, 3, 1, []impl.Part{{Owner: 1, Miles: 6}, {Owner: 0, Miles: 1}}},
		{0, 4, 5, []impl.Part{{Owner: 5, Miles: 4}, {Owner: 1, Miles: 2}, {Owner: 0, Miles: 1}}},
		{6, 7, 4, []impl.Part{{Owner: 0, Miles: 3}, {Owner: 1, Miles: 3}, {Owner: 4, Miles: 1}}},
		{6, 7, 1, []impl.Part{{Owner: 0, Miles: 3}, {Owner: 1, Miles: 4}}},
		{5, 7, 2, []impl.Part{{Owner: 0, Miles: 3}, {Owner: 1, Miles: 2}, {Owner: 2, Miles: 2}}},
		{0, 7, 3, oneOwner(3, 7)},
		{0, 7, 0, oneOwner(0, 7)},
		{3, 6, 0, oneOwner(0, 7)},
		{1, 2, 4, []impl.Part{{Owner: 0, Miles: 1}, {Owner: 4, Miles: 1}, {Owner: 0, Miles: 1}, {Owner: 1, Miles: 3}, {Owner: 0, Miles: 1}}},
		{4, 5, 5, []impl.Part{{Owner: 0, Miles: 3}, {Owner: 1, Miles: 1}, {Owner: 5, Miles: 1}, {Owner: 1, Miles: 1}, {Owner: 0, Miles: 1}}},
		{2, 5, 2, []impl.Part{{Owner: 0, Miles: 2}, {Owner: 2, Miles: 3}, {Owner: 1, Miles: 1}, {Owner: 0, Miles: 1}}},
		{2, 5, 0, []impl.Part{{Owner: 0, Miles: 5}, {Owner: 1, Miles: 1}, {Owner: 0, Miles: 1}}},
		{2, 5, 1, []impl.Part{{Owner: 0, Miles: 2}, {Owner: 1, Miles: 4}, {Owner: 0, Miles: 1}}},
		{2, 7, 2, []impl.Part{{Owner: 0, Miles: 2}, {Owner: 2, Miles: 5}}},
		{1, 6, 3, []impl.Part{{Owner: 0, Miles: 1}, {Owner: 3, Miles: 5}, {Owner: 0, Miles: 1}}},
		{0, 3, 0, plainParts()},
		{1, 2, 0, plainParts()},
		{4, 6, 1, plainParts()},
		{6, 7, 0, plainParts()},
	} {
		checkSale(t, plainParts(), c.from, c.to, c.owner, c.want)
	}
	checkSale(t, oneOwner(3, 1), 0, 1, 5, oneOwner(5, 1))
	checkSale(t, oneOwner(3, 99), 0, 99, 5, oneOwner(5, 99))
	checkSale(t, oneOwner(3, 99), 98, 99, 5, []impl.Part{{Owner: 3, Miles: 98}, {Owner: 5, Miles: 1}})
}

// TestSalesOfOtherRoads sells miles of roads that are not plain; the result is plain, also where nothing was sold.
func TestSalesOfOtherRoads(t *testing.T) {
	checkSale(t, pairedParts(), 4, 5, 2, []impl.Part{{Owner: 2, Miles: 5}, {Owner: 5, Miles: 7}, {Owner: 0, Miles: 7}})
	checkSale(t, pairedParts(), 5, 6, 1, []impl.Part{{Owner: 2, Miles: 5}, {Owner: 1, Miles: 1}, {Owner: 5, Miles: 6}, {Owner: 0, Miles: 7}})
	checkSale(t, pairedParts(), 0, 12, 0, oneOwner(0, 19))
	checkSale(t, pairedParts(), 13, 17, 4, []impl.Part{{Owner: 2, Miles: 5}, {Owner: 5, Miles: 7}, {Owner: 0, Miles: 1}, {Owner: 4, Miles: 4}, {Owner: 0, Miles: 2}})
	checkSale(t, oneOwner(1, 1, 1, 1), 1, 2, 0, []impl.Part{{Owner: 1, Miles: 1}, {Owner: 0, Miles: 1}, {Owner: 1, Miles: 1}})
	// The parts with one Owner are too long together, but for the mile that is sold.
	checkSale(t, oneOwner(4, 99, 99), 99, 100, 2, []impl.Part{{Owner: 4, Miles: 99}, {Owner: 2, Miles: 1}, {Owner: 4, Miles: 98}})
	checkNoSale(t, oneOwner(4, 99, 99), 98, 99, 4)
	checkSale(t, oneOwner(4, 99, 99), 98, 99, 2, []impl.Part{{Owner: 4, Miles: 98}, {Owner: 2, Miles: 1}, {Owner: 4, Miles: 99}})
	checkNoSale(t, oneOwner(4, 99, 99), 97, 98, 2)
	checkNoSale(t, oneOwner(4, 99, 99), 100, 101, 2)
	checkNoSale(t, oneOwner(4, 99, 99), 0, 1, 2)
	checkNoSale(t, append(oneOwner(4, 50, 50), plainParts()...), 100, 101, 2)
}

func TestSalesThatMakeTooLongParts(t *testing.T) {
	parts := []impl.Part{{Owner: 0, Miles: 60}, {Owner: 1, Miles: 60}, {Owner: 2, Miles: 60}}
	checkSale(t, parts, 60, 99, 0, []impl.Part{{Owner: 0, Miles: 99}, {Owner: 1, Miles: 21}, {Owner: 2, Miles: 60}})
	checkNoSale(t, parts, 60, 100, 0)
	checkSale(t, parts, 81, 120, 2, []impl.Part{{Owner: 0, Miles: 60}, {Owner: 1, Miles: 21}, {Owner: 2, Miles: 99}})
	checkNoSale(t, parts, 80, 120, 2)
	checkSale(t, parts, 10, 109, 5, []impl.Part{{Owner: 0, Miles: 10}, {Owner: 5, Miles: 99}, {Owner: 1, Miles: 11}, {Owner: 2, Miles: 60}})
	checkNoSale(t, parts, 10, 110, 5)
	checkNoSale(t, parts, 0, 180, 5)
	checkSale(t, []impl.Part{{Owner: 0, Miles: 50}, {Owner: 1, Miles: 1}, {Owner: 0, Miles: 48}}, 50, 51, 0, oneOwner(0, 99))
	checkNoSale(t, []impl.Part{{Owner: 0, Miles: 50}, {Owner: 1, Miles: 1}, {Owner: 0, Miles: 49}}, 50, 51, 0)
}

func TestSalesThatMakeTooManyParts(t *testing.T) {
	ten, eleven, twelve := byTurns(10, 3, 0, 1), byTurns(11, 3, 0, 1), byTurns(12, 3, 0, 1)
	for _, c := range []struct {
		parts    []impl.Part
		from, to int
		fits     bool
	}{
		{ten, 4, 5, true}, {ten, 2, 4, true}, {eleven, 4, 5, false}, {eleven, 31, 32, false}, {eleven, 3, 4, true}, {eleven, 2, 4, true}, {eleven, 0, 1, true}, {eleven, 32, 33, true},
		{twelve, 4, 5, false}, {twelve, 0, 1, false}, {twelve, 35, 36, false}, {twelve, 2, 4, false}, {twelve, 3, 4, false}, {twelve, 3, 6, true}, {twelve, 2, 7, true}, {twelve, 3, 8, true}, {twelve, 0, 3, true}, {twelve, 33, 36, true}, {twelve, 0, 36, true}, {twelve, 0, 32, true},
	} {
		want, _ := modelSell(c.parts, c.from, c.to, 5)
		if (want != nil) != c.fits {
			t.Fatalf("the sale from %d to %d of %v is %v", c.from, c.to, c.parts, want)
		}
		if !c.fits {
			checkNoSale(t, c.parts, c.from, c.to, 5)
			continue
		}
		checkSale(t, c.parts, c.from, c.to, 5, want)
	}
	// Who has these miles, or those next to them, can buy them without one part more.
	checkSale(t, twelve, 4, 5, 1, twelve)
	checkSale(t, twelve, 3, 4, 0, slices.Concat([]impl.Part{{Owner: 0, Miles: 4}, {Owner: 1, Miles: 2}}, twelve[2:]))
	checkSale(t, twelve, 5, 6, 0, slices.Concat(twelve[:1], []impl.Part{{Owner: 1, Miles: 2}, {Owner: 0, Miles: 4}}, twelve[3:]))
	checkNoSale(t, twelve, 4, 5, 0)
	// These are 12 parts, but fewer when they are made plain.
	checkSale(t, oneOwner(2, slices.Repeat([]int{2}, 12)...), 4, 5, 0, []impl.Part{{Owner: 2, Miles: 4}, {Owner: 0, Miles: 1}, {Owner: 2, Miles: 19}})
}

func TestSalesThatFail(t *testing.T) {
	for _, parts := range [][]impl.Part{plainParts(), pairedParts(), oneOwner(0, 1), oneOwner(5, 99), twelveParts(1), twelveParts(99)} {
		length := len(modelOwners(parts))
		for _, s := range noStretches(length) {
			for _, owner := range []int{0, 3, 5} {
				checkNoSale(t, parts, s[0], s[1], owner)
			}
		}
		for _, owner := range noOwners() {
			checkNoSale(t, parts, 0, 1, owner)
			checkNoSale(t, parts, length-1, length, owner)
			checkNoSale(t, parts, 0, length, owner)
			checkNoSale(t, parts, 1, 0, owner)
		}
	}
}

func TestJoinedRoadsAtLimits(t *testing.T) {
	for a := range 14 {
		for b := range 14 {
			first, second := byTurns(a, 99, 0, 1), byTurns(b, 1, 1, 0)
			if a < 1 || b < 1 || a+b > 12 {
				checkNoJoin(t, first, second)
				continue
			}
			if joined, ok := impl.PartsJoin(first, second); !ok || !slices.Equal(joined, slices.Concat(first, second)) {
				t.Errorf("PartsJoin of %v and %v gives %v and %v", first, second, joined, ok)
			}
		}
	}
	// Parts of one Owner that come to follow each other stay two parts.
	if joined, ok := impl.PartsJoin(oneOwner(3, 99), oneOwner(3, 99)); !ok || !slices.Equal(joined, oneOwner(3, 99, 99)) {
		t.Errorf("PartsJoin of parts with one Owner gives %v and %v", joined, ok)
	}
}

func TestTurnedRoads(t *testing.T) {
	for _, c := range [][2][]impl.Part{
		{oneOwner(4, 7), oneOwner(4, 7)},
		{plainParts(), {{Owner: 0, Miles: 1}, {Owner: 1, Miles: 3}, {Owner: 0, Miles: 3}}},
		{oneOwner(2, 1, 99), oneOwner(2, 99, 1)},
		{milesEach(1, 2, 3, 4), {{Owner: 3, Miles: 4}, {Owner: 2, Miles: 3}, {Owner: 1, Miles: 2}, {Owner: 0, Miles: 1}}},
	} {
		if turned, ok := impl.PartsTurn(c[0]); !ok || !slices.Equal(turned, c[1]) {
			t.Errorf("PartsTurn of %v gives %v and %v", c[0], turned, ok)
		}
	}
}

func TestAmountsAtLimits(t *testing.T) {
	for _, c := range []struct {
		parts       []impl.Part
		amount      int
		shares, due []int
	}{
		{plainParts(), 10, []int{6, 4, 0, 0, 0, 0}, []int{40, 30, 0, 0, 0, 0}},
		{plainParts(), 0, []int{0, 0, 0, 0, 0, 0}, []int{0, 0, 0, 0, 0, 0}},
		{plainParts(), 1, []int{1, 0, 0, 0, 0, 0}, []int{4, 3, 0, 0, 0, 0}},
		{plainParts(), 1000000, []int{571429, 428571, 0, 0, 0, 0}, []int{4000000, 3000000, 0, 0, 0, 0}},
		{oneOwner(0, 1), 1000000, []int{1000000, 0, 0, 0, 0, 0}, []int{1000000, 0, 0, 0, 0, 0}},
		{oneOwner(5, slices.Repeat([]int{99}, 12)...), 1000000, []int{0, 0, 0, 0, 0, 1000000}, []int{0, 0, 0, 0, 0, 1188000000}},
		{twelveParts(99), 1000000, []int{166667, 166667, 166667, 166667, 166666, 166666}, slices.Repeat([]int{198000000}, 6)},
		{twelveParts(99), 999999, []int{166667, 166667, 166667, 166666, 166666, 166666}, slices.Repeat([]int{197999802}, 6)},
	} {
		shares, ok := impl.ShareMake(c.parts, c.amount)
		numbersDiffer(t, "ShareMake", shares, ok, c.shares)
		due, ok := impl.ShareDue(c.parts, c.amount)
		numbersDiffer(t, "ShareDue", due, ok, c.due)
		length := len(modelOwners(c.parts))
		ride, ok := impl.ShareRide(c.parts, 0, length, c.amount)
		numbersDiffer(t, "ShareRide", ride, ok, c.shares)
	}
	for _, c := range namedRoads() {
		length := len(modelOwners(c.parts))
		for _, amount := range noAmounts() {
			checkNoShares(t, c.parts, amount)
			checkNoRide(t, c.parts, 0, length, amount)
			checkNoRide(t, c.parts, length-1, length, amount)
		}
	}
}

func TestRidesOfSomeMiles(t *testing.T) {
	for _, c := range []struct {
		from, to, amount int
		want             []int
	}{
		{2, 5, 10, []int{3, 7, 0, 0, 0, 0}},
		{0, 7, 10, []int{6, 4, 0, 0, 0, 0}},
		{0, 1, 10, []int{10, 0, 0, 0, 0, 0}},
		{2, 3, 10, []int{10, 0, 0, 0, 0, 0}},
		{3, 4, 10, []int{0, 10, 0, 0, 0, 0}},
		{5, 6, 10, []int{0, 10, 0, 0, 0, 0}},
		{6, 7, 10, []int{10, 0, 0, 0, 0, 0}},
		{0, 3, 10, []int{10, 0, 0, 0, 0, 0}},
		{3, 6, 10, []int{0, 10, 0, 0, 0, 0}},
		{0, 4, 10, []int{8, 2, 0, 0, 0, 0}},
		{1, 4, 10, []int{7, 3, 0, 0, 0, 0}},
		{2, 7, 10, []int{4, 6, 0, 0, 0, 0}},
		{5, 7, 11, []int{6, 5, 0, 0, 0, 0}},
		{5, 7, 0, []int{0, 0, 0, 0, 0, 0}},
		{5, 7, 1000000, []int{500000, 500000, 0, 0, 0, 0}},
	} {
		got, ok := impl.ShareRide(plainParts(), c.from, c.to, c.amount)
		numbersDiffer(t, "ShareRide", got, ok, c.want)
	}
	for _, c := range namedRoads() {
		owners := modelOwners(c.parts)
		for _, mile := range []int{0, len(owners) / 2, len(owners) - 1} {
			want := make([]int, 6)
			want[owners[mile]] = 999999
			got, ok := impl.ShareRide(c.parts, mile, mile+1, 999999)
			numbersDiffer(t, c.name+": ShareRide of one mile", got, ok, want)
		}
		for _, s := range noStretches(len(owners)) {
			for _, amount := range []int{0, 10, 1000000} {
				checkNoRide(t, c.parts, s[0], s[1], amount)
			}
		}
	}
}

func TestSettlements(t *testing.T) {
	for _, c := range []struct {
		parts       []impl.Part
		taken, want []int
	}{
		{plainParts(), []int{10, 0, 0, 0, 0, 0}, []int{-4, 4, 0, 0, 0, 0}},
		{plainParts(), []int{0, 10, 0, 0, 0, 0}, []int{6, -6, 0, 0, 0, 0}},
		{plainParts(), []int{0, 0, 0, 0, 0, 10}, []int{6, 4, 0, 0, 0, -10}},
		{plainParts(), []int{6, 4, 0, 0, 0, 0}, []int{0, 0, 0, 0, 0, 0}},
		{plainParts(), []int{0, 0, 0, 0, 0, 0}, []int{0, 0, 0, 0, 0, 0}},
		{plainParts(), []int{1, 2, 3, 4, 5, 6}, []int{11, 7, -3, -4, -5, -6}},
		{plainParts(), []int{1000000, 0, 0, 0, 0, 0}, []int{-428571, 428571, 0, 0, 0, 0}},
		{plainParts(), []int{0, 0, 0, 0, 0, 1000000}, []int{571429, 428571, 0, 0, 0, -1000000}},
		{plainParts(), []int{0, 0, 999999, 0, 0, 1}, []int{571429, 428571, -999999, 0, 0, -1}},
		{twelveParts(99), []int{166666, 166666, 166667, 166667, 166667, 166667}, []int{1, 1, 0, 0, -1, -1}},
		{oneOwner(3, 1), []int{1, 1, 1, 1, 1, 1}, []int{-1, -1, -1, 5, -1, -1}},
	} {
		got, ok := impl.ShareSettle(c.parts, c.taken)
		numbersDiffer(t, "ShareSettle", got, ok, c.want)
	}
}

func TestSettlementsThatFail(t *testing.T) {
	for _, parts := range [][]impl.Part{plainParts(), oneOwner(0, 1), twelveParts(99)} {
		for number := range 14 {
			if number != 6 {
				checkNoSettlement(t, parts, make([]int, number))
				checkNoSettlement(t, parts, slices.Repeat([]int{7}, number))
			}
		}
		for place := range 6 {
			for _, amount := range append(farNumbers(), -1000000, -2, -1, 1000001, 1000002) {
				for _, others := range []int{0, 1, 5} {
					taken := slices.Repeat([]int{others}, 6)
					taken[place] = amount
					checkNoSettlement(t, parts, taken)
				}
			}
			taken := slices.Repeat([]int{1}, 6)
			taken[place] = 999996
			checkNoSettlement(t, parts, taken)
			taken[place] = 999995
			if got, ok := impl.ShareSettle(parts, taken); !ok || len(got) != 6 {
				t.Errorf("ShareSettle of %v gives %v and %v", taken, got, ok)
			}
			// A negative amount makes the sum small enough, but is none.
			taken[place], taken[(place+1)%6] = 1000000, -4
			checkNoSettlement(t, parts, taken)
		}
		for _, taken := range [][]int{
			{1000000, 1, 0, 0, 0, 0}, {0, 0, 0, 0, 1, 1000000}, {500000, 0, 0, 500001, 0, 0}, slices.Repeat([]int{166667}, 6), slices.Repeat([]int{1000000}, 6),
			slices.Repeat([]int{math.MaxInt}, 6), {math.MaxInt, 1, 0, 0, 0, 0}, {1, math.MaxInt, 0, 0, 0, 0}, {math.MaxInt, math.MaxInt, 2, 0, 0, 0}, {math.MaxInt, math.MinInt, 1, 0, 0, 0}, {1000000, math.MaxInt, 0, 0, 0, math.MinInt}, slices.Repeat([]int{math.MinInt}, 6), slices.Repeat([]int{math.MaxInt / 3}, 6), slices.Repeat([]int{-1}, 6), {1 << 62, 1 << 62, 1 << 62, 1 << 62, 0, 5},
		} {
			checkNoSettlement(t, parts, taken)
		}
	}
}
