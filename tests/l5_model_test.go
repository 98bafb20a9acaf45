package tests

import (
	"slices"
	"testing"

	"loop.example/mailcoaches/impl"
)

// The model writes down the Owner of every mile, and gives out what is left of an amount one by one.

// modelOwners returns the Owner of each mile of a road.
func modelOwners(parts []impl.Part) []int {
	owners := []int{}
	for _, p := range parts {
		owners = append(owners, slices.Repeat([]int{p.Owner}, p.Miles)...)
	}
	return owners
}

// modelRoad reports whether a list is a road in parts.
func modelRoad(parts []impl.Part) bool {
	fit := 0
	for _, p := range parts {
		if p.Owner >= 0 && p.Owner <= 5 && p.Miles >= 1 && p.Miles <= 99 {
			fit++
		}
	}
	return fit == len(parts) && fit >= 1 && fit <= 12
}

// modelPlain returns the plain road with an Owner for each mile, and whether it is a road in parts.
func modelPlain(owners []int) ([]impl.Part, bool) {
	parts := []impl.Part{}
	for begin := 0; begin < len(owners); {
		end := begin
		for end < len(owners) && owners[end] == owners[begin] {
			end++
		}
		parts = append(parts, impl.Part{Owner: owners[begin], Miles: end - begin})
		begin = end
	}
	if !modelRoad(parts) {
		return nil, false
	}
	return parts, true
}

// modelSell returns the plain road on which some miles are sold, and whether it is a road in parts.
func modelSell(parts []impl.Part, from int, to int, owner int) ([]impl.Part, bool) {
	owners := modelOwners(parts)
	for mile := from; mile < to; mile++ {
		owners[mile] = owner
	}
	return modelPlain(owners)
}

// modelWorked returns how many of some miles each proprietor works.
func modelWorked(owners []int) []int {
	worked := []int{}
	for owner := range 6 {
		number := 0
		for _, other := range owners {
			if other == owner {
				number++
			}
		}
		worked = append(worked, number)
	}
	return worked
}

// modelRests returns the part of a whole, counted in all miles, that is rounded away for each proprietor.
func modelRests(worked []int, amount int) []int {
	rests := []int{}
	for _, miles := range worked {
		rests = append(rests, amount*miles%sumOf(worked))
	}
	return rests
}

// modelShare shares an amount by the miles that each proprietor works, and also returns who got one of what was left.
func modelShare(worked []int, amount int) ([]int, []int) {
	rests, shares, lucky := modelRests(worked, amount), []int{}, []int{}
	for owner, miles := range worked {
		shares = append(shares, (amount*miles-rests[owner])/sumOf(worked))
	}
	for sumOf(shares) < amount {
		next := -1
		for owner := 5; owner >= 0; owner-- {
			if !slices.Contains(lucky, owner) && (next < 0 || rests[owner] >= rests[next]) {
				next = owner
			}
		}
		shares[next]++
		lucky = append(lucky, next)
	}
	return shares, lucky
}

// numbersDiffer tells of a result that is not as wanted.
func numbersDiffer(t *testing.T, name string, got []int, ok bool, want []int) {
	t.Helper()
	if !ok || !slices.Equal(got, want) {
		t.Errorf("%s: got %v and %v, want %v", name, got, ok, want)
	}
}

func TestModelOfRoadsInParts(t *testing.T) {
	number := map[bool]int{}
	for _, c := range slices.Concat(allParts(), noRoads()) {
		want := modelRoad(c.parts)
		if got := impl.PartsValid(c.parts); got != want {
			t.Errorf("%s: PartsValid of %v: got %v", c.name, c.parts, got)
		}
		number[want]++
	}
	if number[true] < 300 || number[false] < 100 {
		t.Errorf("only %d lists are roads and only %d are none", number[true], number[false])
	}
}

func TestModelOfMiles(t *testing.T) {
	eachParts(t, func(t *testing.T, c partedRoad) {
		owners := modelOwners(c.parts)
		if got := impl.PartsLength(c.parts); got != len(owners) {
			t.Errorf("PartsLength: got %d, want %d", got, len(owners))
		}
		got, ok := impl.PartsMiles(c.parts)
		numbersDiffer(t, "PartsMiles", got, ok, modelWorked(owners))
		for mile, owner := range owners {
			if got, ok := impl.PartsOwner(c.parts, mile); !ok || got != owner {
				t.Fatalf("PartsOwner of the mile %d: got %d and %v, want %d", mile, got, ok, owner)
			}
		}
		for _, mile := range append(farNumbers(), -2, -1, len(owners), len(owners)+1) {
			if got, ok := impl.PartsOwner(c.parts, mile); ok || got != 0 {
				t.Errorf("PartsOwner of the mile %d: got %d and %v", mile, got, ok)
			}
		}
	})
}

func TestModelOfPlainRoads(t *testing.T) {
	number := map[bool]int{}
	eachParts(t, func(t *testing.T, c partedRoad) {
		want, fits := modelPlain(modelOwners(c.parts))
		if got, ok := impl.PartsPlain(c.parts); ok != fits || !slices.Equal(got, want) {
			t.Errorf("PartsPlain: got %v and %v, want %v", got, ok, want)
		}
		number[fits]++
	})
	if number[true] < 300 || number[false] < 10 {
		t.Errorf("only %d roads can be made plain and only %d can not", number[true], number[false])
	}
}

func TestModelOfTurnedAndJoinedRoads(t *testing.T) {
	roads := allParts()
	for i, c := range roads {
		turned := []impl.Part{}
		for _, p := range c.parts {
			turned = append([]impl.Part{p}, turned...)
		}
		if got, ok := impl.PartsTurn(c.parts); !ok || !slices.Equal(got, turned) {
			t.Errorf("%s: PartsTurn: got %v and %v, want %v", c.name, got, ok, turned)
		}
		for _, k := range []int{0, 1, 2, 7, 8, i, (i + 1) % len(roads), (i * 7) % len(roads)} {
			d := roads[k]
			want := append(slices.Clone(c.parts), d.parts...)
			fits := modelRoad(want)
			if !fits {
				want = nil
			}
			if got, ok := impl.PartsJoin(c.parts, d.parts); ok != fits || !slices.Equal(got, want) {
				t.Errorf("PartsJoin of %v and %v: got %v and %v, want %v", c.parts, d.parts, got, ok, want)
			}
		}
	}
}

func TestModelOfSales(t *testing.T) {
	number := map[bool]int{}
	eachStretch(t, func(t *testing.T, c partedRoad, from int, to int) {
		for owner := range 6 {
			want, fits := modelSell(c.parts, from, to, owner)
			if got, ok := impl.PartsSell(c.parts, from, to, owner); ok != fits || !slices.Equal(got, want) {
				t.Errorf("PartsSell to %d: got %v and %v, want %v", owner, got, ok, want)
			}
			number[fits]++
		}
	})
	if number[true] < 1000 || number[false] < 1000 {
		t.Errorf("only %d sales can be and only %d can not", number[true], number[false])
	}
}

func TestModelOfShares(t *testing.T) {
	eachAmount(t, func(t *testing.T, c partedRoad, amount int) {
		worked := modelWorked(modelOwners(c.parts))
		want, _ := modelShare(worked, amount)
		got, ok := impl.ShareMake(c.parts, amount)
		numbersDiffer(t, "ShareMake", got, ok, want)
		for owner, miles := range worked {
			want[owner] = amount * miles
		}
		got, ok = impl.ShareDue(c.parts, amount)
		numbersDiffer(t, "ShareDue", got, ok, want)
	})
}

func TestModelOfRides(t *testing.T) {
	eachStretch(t, func(t *testing.T, c partedRoad, from int, to int) {
		worked := modelWorked(modelOwners(c.parts)[from:to])
		for _, amount := range []int{0, 1, 2, 3, to - from, to - from + 1, 999983, 1000000} {
			want, _ := modelShare(worked, amount)
			got, ok := impl.ShareRide(c.parts, from, to, amount)
			numbersDiffer(t, "ShareRide", got, ok, want)
		}
	})
}

// takenLists are lists of what the proprietors have taken, of which the sum is shared.
func takenLists(s *numbers) [][]int {
	lists := [][]int{{0, 0, 0, 0, 0, 0}, {1, 0, 0, 0, 0, 0}, {0, 0, 0, 0, 0, 1}, {10, 0, 0, 0, 0, 0}, {1000000, 0, 0, 0, 0, 0}, {0, 0, 0, 0, 0, 1000000}, {1, 1, 1, 1, 1, 1}, {999995, 1, 1, 1, 1, 1}, {0, 500000, 0, 0, 500000, 0}, {166667, 166667, 166667, 166667, 166666, 166666}}
	for range 6 {
		list := []int{}
		for range 6 {
			list = append(list, s.below([]int{2, 10, 166667}[s.below(3)]))
		}
		lists = append(lists, list)
	}
	return lists
}

func TestModelOfSettlements(t *testing.T) {
	s := &numbers{state: 83}
	eachParts(t, func(t *testing.T, c partedRoad) {
		worked := modelWorked(modelOwners(c.parts))
		for _, taken := range takenLists(s) {
			want, _ := modelShare(worked, sumOf(taken))
			for owner, amount := range taken {
				want[owner] -= amount
			}
			got, ok := impl.ShareSettle(c.parts, taken)
			numbersDiffer(t, "ShareSettle", got, ok, want)
		}
	})
}
