package tests

import (
	"slices"
	"testing"

	"loop.example/mailcoaches/impl"
)

// sharedMiles are the miles that each proprietor works, an amount, and what each one gets.
type sharedMiles struct {
	name   string
	worked []int
	amount int
	want   []int
}

// equalRests are amounts of which some proprietors have the same rest.
func equalRests() []sharedMiles {
	return []sharedMiles{
		{"two, one left", []int{3, 3, 0, 0, 0, 0}, 1, []int{1, 0, 0, 0, 0, 0}},
		{"two, one left behind wholes", []int{3, 3, 0, 0, 0, 0}, 7, []int{4, 3, 0, 0, 0, 0}},
		{"two with great numbers", []int{0, 0, 0, 0, 5, 5}, 9, []int{0, 0, 0, 0, 5, 4}},
		{"first and last", []int{7, 0, 0, 0, 0, 7}, 15, []int{8, 0, 0, 0, 0, 7}},
		{"two of a lesser rest, neither gets one", []int{1, 3, 3, 0, 0, 0}, 3, []int{1, 1, 1, 0, 0, 0}},
		{"two of a greater rest than the least number, one left", []int{1, 3, 3, 0, 0, 0}, 1, []int{0, 1, 0, 0, 0, 0}},
		{"two of a greater rest than the least number, two left", []int{1, 3, 3, 0, 0, 0}, 2, []int{0, 1, 1, 0, 0, 0}},
		{"two of a lesser rest, the other one gets one first", []int{1, 1, 2, 0, 0, 0}, 1, []int{0, 0, 1, 0, 0, 0}},
		{"two of a lesser rest, the lesser number gets one second", []int{3, 0, 3, 0, 4, 0}, 12, []int{4, 0, 3, 0, 5, 0}},
		{"three, one left", []int{0, 1, 0, 1, 1, 0}, 1, []int{0, 1, 0, 0, 0, 0}},
		{"three, two left", []int{0, 1, 0, 1, 1, 0}, 2, []int{0, 1, 0, 1, 0, 0}},
		{"three, none left", []int{0, 1, 0, 1, 1, 0}, 3, []int{0, 1, 0, 1, 1, 0}},
		{"three, one left behind wholes", []int{33, 33, 33, 0, 0, 0}, 1000000, []int{333334, 333333, 333333, 0, 0, 0}},
		{"three, two left behind wholes", []int{0, 0, 0, 33, 33, 33}, 999998, []int{0, 0, 0, 333333, 333333, 333332}},
		{"all six, one left", []int{1, 1, 1, 1, 1, 1}, 1, []int{1, 0, 0, 0, 0, 0}},
		{"all six, three left", []int{2, 2, 2, 2, 2, 2}, 9, []int{2, 2, 2, 1, 1, 1}},
		{"all six, five left", []int{99, 99, 99, 99, 99, 99}, 5, []int{1, 1, 1, 1, 1, 0}},
		{"all six, none left", []int{99, 99, 99, 99, 99, 99}, 12, []int{2, 2, 2, 2, 2, 2}},
		{"all six, four left of AmountMax", []int{99, 99, 99, 99, 99, 99}, 1000000, []int{166667, 166667, 166667, 166667, 166666, 166666}},
		{"two pairs, one left", []int{1, 2, 1, 2, 0, 0}, 1, []int{0, 1, 0, 0, 0, 0}},
		{"two pairs, two left", []int{1, 2, 1, 2, 0, 0}, 2, []int{0, 1, 0, 1, 0, 0}},
		{"two pairs, the one with fewer miles has the greater rest", []int{2, 1, 2, 1, 0, 0}, 4, []int{1, 1, 1, 1, 0, 0}},
		{"two pairs, all with the same rest, one left", []int{1, 5, 1, 5, 0, 0}, 15, []int{2, 6, 1, 6, 0, 0}},
	}
}

// equalRestsOfOtherMiles are amounts of which proprietors have the same rest though they work more and fewer miles.
func equalRestsOfOtherMiles() []sharedMiles {
	return []sharedMiles{
		{"the lesser number has fewer miles", []int{1, 3, 0, 0, 0, 0}, 2, []int{1, 1, 0, 0, 0, 0}},
		{"the lesser number has more miles", []int{3, 1, 0, 0, 0, 0}, 2, []int{2, 0, 0, 0, 0, 0}},
		{"the lesser number has fewer miles, great numbers", []int{0, 0, 0, 0, 1, 5}, 3, []int{0, 0, 0, 0, 1, 2}},
		{"the lesser number has more miles, great numbers", []int{0, 0, 0, 0, 5, 1}, 3, []int{0, 0, 0, 0, 3, 0}},
		{"the lesser number has far fewer miles", []int{0, 1, 0, 99, 0, 0}, 50, []int{0, 1, 0, 49, 0, 0}},
		{"three, more and more miles, one left", []int{1, 0, 4, 0, 7, 0}, 4, []int{1, 0, 1, 0, 2, 0}},
		{"three, more and more miles, two left", []int{1, 0, 4, 0, 7, 0}, 8, []int{1, 0, 3, 0, 4, 0}},
		{"three, fewer and fewer miles, one left", []int{7, 4, 1, 0, 0, 0}, 4, []int{3, 1, 0, 0, 0, 0}},
		{"three, fewer and fewer miles, two left", []int{7, 4, 1, 0, 0, 0}, 8, []int{5, 3, 0, 0, 0, 0}},
		{"all six, one of them with more miles", []int{1, 1, 1, 1, 1, 7}, 2, []int{1, 0, 0, 0, 0, 1}},
		{"all six, the last one with more miles gets none", []int{1, 1, 1, 1, 1, 7}, 10, []int{1, 1, 1, 1, 1, 5}},
		{"all six, the first one with more miles", []int{7, 1, 1, 1, 1, 1}, 2, []int{2, 0, 0, 0, 0, 0}},
		{"a greater rest behind an equal pair", []int{2, 2, 3, 0, 0, 0}, 2, []int{1, 0, 1, 0, 0, 0}},
	}
}

// otherRests are amounts of which the rests that count are different, or none is left.
func otherRests() []sharedMiles {
	return []sharedMiles{
		{"one with all miles", []int{0, 0, 9, 0, 0, 0}, 1000000, []int{0, 0, 1000000, 0, 0, 0}},
		{"the first one with all miles", []int{1, 0, 0, 0, 0, 0}, 1, []int{1, 0, 0, 0, 0, 0}},
		{"the last one with all miles", []int{0, 0, 0, 0, 0, 99}, 999999, []int{0, 0, 0, 0, 0, 999999}},
		{"the last one with all miles, nothing", []int{0, 0, 0, 0, 0, 99}, 0, []int{0, 0, 0, 0, 0, 0}},
		{"nothing left", []int{3, 3, 1, 0, 0, 0}, 14, []int{6, 6, 2, 0, 0, 0}},
		{"nothing left of a part of all miles", []int{2, 4, 2, 0, 0, 0}, 4, []int{1, 2, 1, 0, 0, 0}},
		{"nothing at all", []int{3, 2, 1, 4, 5, 6}, 0, []int{0, 0, 0, 0, 0, 0}},
		{"a rest of 0 between", []int{1, 2, 1, 0, 0, 0}, 2, []int{1, 1, 0, 0, 0, 0}},
		{"the greatest rest last", []int{1, 2, 3, 4, 5, 6}, 1, []int{0, 0, 0, 0, 0, 1}},
		{"more and more miles, two left", []int{1, 2, 3, 4, 5, 6}, 2, []int{0, 0, 0, 0, 1, 1}},
		{"more and more miles, three left", []int{1, 2, 3, 4, 5, 6}, 3, []int{0, 0, 0, 1, 1, 1}},
		{"fewer and fewer miles, three left", []int{6, 5, 4, 3, 2, 1}, 3, []int{1, 1, 1, 0, 0, 0}},
		{"the fewest miles have the greatest rest", []int{0, 3, 0, 0, 4, 0}, 2, []int{0, 1, 0, 0, 1, 0}},
		{"the greatest rest rounded away of fewer miles", []int{5, 0, 0, 2, 0, 0}, 3, []int{2, 0, 0, 1, 0, 0}},
		{"AmountMax of many miles", []int{99, 98, 97, 96, 95, 94}, 1000000, []int{170985, 169257, 167530, 165803, 164076, 162349}},
	}
}

// allShares are all amounts on which the tests of rests are done.
func allShares() []sharedMiles {
	return slices.Concat(equalRests(), equalRestsOfOtherMiles(), otherRests())
}

// equalMost returns how many equal rests there are at most that are not 0.
func equalMost(rests []int) int {
	most := 0
	for _, rest := range rests {
		same := 0
		for _, other := range rests {
			if rest > 0 && other == rest {
				same++
			}
		}
		most = max(most, same)
	}
	return most
}

func TestSharesOfRests(t *testing.T) {
	for _, c := range allShares() {
		if sumOf(c.want) != c.amount {
			t.Fatalf("%s: the sum of %v is not %d", c.name, c.want, c.amount)
		}
		got, ok := impl.ShareMake(workedBy(c.worked...), c.amount)
		numbersDiffer(t, c.name+": ShareMake", got, ok, c.want)
	}
}

// TestTheRestsAreEqual checks that the cases are what their names tell.
func TestTheRestsAreEqual(t *testing.T) {
	for _, c := range slices.Concat(equalRests(), equalRestsOfOtherMiles()) {
		rests := modelRests(c.worked, c.amount)
		none := equalMost(rests) == 0 && slices.Max(rests) == 0
		if equalMost(rests) < 2 && !none {
			t.Errorf("%s: the rests are %v", c.name, rests)
		}
	}
}

// TestSharesOfPartsInAnotherOrder checks that the order of the parts, and how many there are of a proprietor, does not matter for who gets what is left.
func TestSharesOfPartsInAnotherOrder(t *testing.T) {
	for _, c := range allShares() {
		parts := workedBy(c.worked...)
		for range parts {
			parts = append(parts[1:], parts[0])
			got, ok := impl.ShareMake(parts, c.amount)
			numbersDiffer(t, c.name+", parts turned round: ShareMake", got, ok, c.want)
			halves := []impl.Part{}
			for _, p := range slices.Backward(parts) {
				if p.Miles > 1 {
					halves = append([]impl.Part{{Owner: p.Owner, Miles: 1}}, halves...)
					p.Miles--
				}
				halves = append(halves, p)
			}
			got, ok = impl.ShareMake(halves, c.amount)
			numbersDiffer(t, c.name+", parts in two: ShareMake", got, ok, c.want)
		}
	}
}

// TestRidesOfRests rides over some miles of a longer road, on which others work, and more: the rests are those of the ride.
func TestRidesOfRests(t *testing.T) {
	ahead := []impl.Part{{Owner: 5, Miles: 40}, {Owner: 3, Miles: 1}, {Owner: 1, Miles: 7}}
	behind := []impl.Part{{Owner: 2, Miles: 99}, {Owner: 5, Miles: 99}}
	for _, c := range allShares() {
		ride := workedBy(c.worked...)
		length := sumOf(c.worked)
		got, ok := impl.ShareRide(ride, 0, length, c.amount)
		numbersDiffer(t, c.name+": ShareRide over all", got, ok, c.want)
		got, ok = impl.ShareRide(slices.Concat(ahead, ride), 48, 48+length, c.amount)
		numbersDiffer(t, c.name+": ShareRide over the last miles", got, ok, c.want)
		got, ok = impl.ShareRide(slices.Concat(ride, behind), 0, length, c.amount)
		numbersDiffer(t, c.name+": ShareRide over the first miles", got, ok, c.want)
		got, ok = impl.ShareRide(slices.Concat(ahead, ride, behind), 48, 48+length, c.amount)
		numbersDiffer(t, c.name+": ShareRide over miles between", got, ok, c.want)
	}
}

// TestRidesOverSomeOfAPart begins and ends within parts, so that the rests are equal on the ride though not on the road.
func TestRidesOverSomeOfAPart(t *testing.T) {
	parts := []impl.Part{{Owner: 4, Miles: 10}, {Owner: 2, Miles: 3}, {Owner: 0, Miles: 20}}
	for _, c := range []struct {
		from, to, amount int
		want             []int
	}{
		{7, 13, 1, []int{0, 0, 1, 0, 0, 0}},
		{7, 13, 7, []int{0, 0, 4, 0, 3, 0}},
		{7, 16, 1, []int{1, 0, 0, 0, 0, 0}},
		{7, 16, 2, []int{1, 0, 1, 0, 0, 0}},
		{7, 16, 3, []int{1, 0, 1, 0, 1, 0}},
		{9, 13, 2, []int{0, 0, 2, 0, 0, 0}},
		{12, 15, 1, []int{1, 0, 0, 0, 0, 0}},
		{12, 16, 2, []int{2, 0, 0, 0, 0, 0}},
		{10, 14, 2, []int{1, 0, 1, 0, 0, 0}},
		{0, 13, 13, []int{0, 0, 3, 0, 10, 0}},
		{0, 10, 5, []int{0, 0, 0, 0, 5, 0}},
		{9, 10, 5, []int{0, 0, 0, 0, 5, 0}},
		{10, 11, 5, []int{0, 0, 5, 0, 0, 0}},
		{32, 33, 5, []int{5, 0, 0, 0, 0, 0}},
	} {
		got, ok := impl.ShareRide(parts, c.from, c.to, c.amount)
		numbersDiffer(t, "ShareRide", got, ok, c.want)
	}
}

// TestSettlementsOfRests lets one proprietor have taken all, and then each proprietor some.
func TestSettlementsOfRests(t *testing.T) {
	for _, c := range allShares() {
		parts := workedBy(c.worked...)
		for taker := range impl.OwnersMax {
			taken, want := make([]int, impl.OwnersMax), slices.Clone(c.want)
			taken[taker] += c.amount
			want[taker] -= c.amount
			got, ok := impl.ShareSettle(parts, taken)
			numbersDiffer(t, c.name+": ShareSettle", got, ok, want)
			taken[taker] -= c.amount / 3
			taken[(taker+2)%6] += c.amount / 3
			want[taker] += c.amount / 3
			want[(taker+2)%6] -= c.amount / 3
			got, ok = impl.ShareSettle(parts, taken)
			numbersDiffer(t, c.name+": ShareSettle", got, ok, want)
		}
		got, ok := impl.ShareSettle(parts, c.want)
		numbersDiffer(t, c.name+": ShareSettle of the shares", got, ok, make([]int, impl.OwnersMax))
	}
}

// TestAllSmallShares holds all ways in which proprietors can work at most 3 miles each against the model, and counts the kinds of rests.
func TestAllSmallShares(t *testing.T) {
	same, fewerMiles, none := make([]int, 7), 0, 0
	for code := 1; code < 4096; code++ {
		worked := []int{code & 3, code >> 2 & 3, code >> 4 & 3, code >> 6 & 3, code >> 8 & 3, code >> 10 & 3}
		parts := workedBy(worked...)
		for amount := range sumOf(worked) + 2 {
			want, lucky := modelShare(worked, amount)
			got, ok := impl.ShareMake(parts, amount)
			if !ok || !slices.Equal(got, want) {
				t.Fatalf("ShareMake of %d by the miles %v: got %v and %v, want %v", amount, worked, got, ok, want)
			}
			rests := modelRests(worked, amount)
			same[equalMost(rests)]++
			if len(lucky) == 0 {
				none++
			}
			if luckyWithFewerMiles(worked, rests, lucky) {
				fewerMiles++
			}
		}
	}
	if slices.Min(same) < 10 || fewerMiles < 100 || none < 1000 {
		t.Errorf("equal rests: %v, with fewer miles first: %d, nothing left: %d", same, fewerMiles, none)
	}
}

// luckyWithFewerMiles reports whether somebody gets one that another one with the same rest and more miles does not get.
func luckyWithFewerMiles(worked []int, rests []int, lucky []int) bool {
	for _, a := range lucky {
		for b := range worked {
			if rests[a] == rests[b] && worked[a] < worked[b] && !slices.Contains(lucky, b) {
				return true
			}
		}
	}
	return false
}

// TestManyLeft checks that at most one is given to each, and all that is left is given.
func TestManyLeft(t *testing.T) {
	most := 0
	for _, c := range allParts() {
		worked := modelWorked(modelOwners(c.parts))
		for amount := range 200 {
			want, lucky := modelShare(worked, amount)
			got, ok := impl.ShareMake(c.parts, amount)
			numbersDiffer(t, c.name+": ShareMake", got, ok, want)
			most = max(most, len(lucky))
		}
	}
	if most != 5 {
		t.Errorf("at most %d were left", most)
	}
}
