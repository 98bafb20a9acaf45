package tests

import (
	"fmt"
	"slices"
	"testing"

	"loop.example/mailcoaches/impl"
)

func TestConstantsOfBills(t *testing.T) {
	if impl.ParcelsMax != 12 || impl.LoadMax != 300 || impl.LegsMax != 7 {
		t.Errorf("the constants are %d, %d and %d", impl.ParcelsMax, impl.LoadMax, impl.LegsMax)
	}
}

func TestListsThatAreBills(t *testing.T) {
	for _, c := range allBills() {
		if !impl.BillValid(c.n, c.bill) {
			t.Errorf("%s: BillValid of %d legs does not hold for %v", c.name, c.n, c.bill)
		}
	}
}

// checkNoBillAdd checks that a parcel cannot be added.
func checkNoBillAdd(t *testing.T, c coachBill, p impl.Parcel) {
	t.Helper()
	got, ok := impl.BillAdd(c.n, c.bill, p)
	parcelsDiffer(t, fmt.Sprintf("%s: BillAdd of %v", c.name, p), got, ok, nil, false)
}

// checkNoBillDrop checks that there is no such parcel.
func checkNoBillDrop(t *testing.T, c coachBill, k int) {
	t.Helper()
	got, ok := impl.BillDrop(c.n, c.bill, k)
	parcelsDiffer(t, fmt.Sprintf("%s: BillDrop of %d", c.name, k), got, ok, nil, false)
}

// checkNoBillJoin checks that two lists cannot be joined.
func checkNoBillJoin(t *testing.T, c coachBill, b []impl.Parcel) {
	t.Helper()
	got, ok := impl.BillJoin(c.n, c.bill, b)
	parcelsDiffer(t, fmt.Sprintf("%s: BillJoin with %v", c.name, b), got, ok, nil, false)
}

// checkNoRoom checks that there are no such stops, or no way-bill.
func checkNoRoom(t *testing.T, c coachBill, from int, to int) {
	t.Helper()
	if room := impl.BillRoom(c.n, c.bill, from, to); room != -1 {
		t.Errorf("%s: BillRoom from %d to %d is %d", c.name, from, to, room)
	}
}

// checkNoStack checks that there is no such stop, or no way-bill.
func checkNoStack(t *testing.T, c coachBill, stop int) {
	t.Helper()
	if stack, ok := impl.BillStack(c.n, c.bill, stop); ok || len(stack) > 0 {
		t.Errorf("%s: BillStack of the stop %d gives %v and %v", c.name, stop, stack, ok)
	}
}

// checkNoBill checks that all functions tell that a list is no way-bill.
func checkNoBill(t *testing.T, c coachBill) {
	t.Helper()
	if impl.BillValid(c.n, c.bill) || impl.BillNested(c.n, c.bill) {
		t.Errorf("%s: BillValid holds, or BillNested", c.name)
	}
	if loads, ok := impl.BillLoads(c.n, c.bill); ok || len(loads) > 0 {
		t.Errorf("%s: BillLoads gives %v and %v", c.name, loads, ok)
	}
	if moves, pound := impl.BillMoves(c.n, c.bill), impl.BillPound(c.n, c.bill); moves != -1 || pound != -1 {
		t.Errorf("%s: BillMoves is %d, and BillPound %d", c.name, moves, pound)
	}
	order, ok := impl.BillOrder(c.n, c.bill)
	parcelsDiffer(t, c.name+": BillOrder", order, ok, nil, false)
	turned, ok := impl.BillTurn(c.n, c.bill)
	parcelsDiffer(t, c.name+": BillTurn", turned, ok, nil, false)
}

func TestListsThatAreNoBills(t *testing.T) {
	for _, c := range noBills() {
		checkNoBill(t, c)
		for _, stop := range append(farNumbers(), -1, 0, 1, 2, 6, 7, 8, c.n-1, c.n, c.n+1) {
			checkNoStack(t, c, stop)
			checkNoBillDrop(t, c, stop)
			checkNoRoom(t, c, 0, stop)
			checkNoRoom(t, c, stop, c.n)
			checkNoRoom(t, c, stop, 7)
		}
		for k := range min(len(c.bill), 14) {
			checkNoBillDrop(t, c, k)
		}
		for _, p := range append(byParcel(0, 1, 1, 0, 7, 99, 0, c.n, 1, 6, 7, 5, 0, 0, 0, 0, 0, 1, 1, 0, 5), c.bill[:min(len(c.bill), 14)]...) {
			checkNoBillAdd(t, c, p)
			checkNoBillJoin(t, c, []impl.Parcel{p})
			checkNoBillJoin(t, coachBill{c.name, c.n, []impl.Parcel{p}}, c.bill)
		}
		for _, other := range [][]impl.Parcel{nil, {}, plainBill(), c.bill} {
			checkNoBillJoin(t, c, other)
			checkNoBillJoin(t, coachBill{c.name, c.n, other}, c.bill)
		}
	}
}

func TestNumberOfLegsOfBills(t *testing.T) {
	for n := -3; n <= 12; n++ {
		fits := 1 <= n && n <= 7
		for _, bill := range [][]impl.Parcel{nil, byParcel(0, 1, 5)} {
			if got := impl.BillValid(n, bill); got != fits {
				t.Errorf("BillValid of %d legs and %v: got %v", n, bill, got)
			}
			if got := impl.BillNested(n, bill); got != fits {
				t.Errorf("BillNested of %d legs and %v: got %v", n, bill, got)
			}
		}
		if got := impl.BillValid(n, byParcel(0, n, 5)); got != fits {
			t.Errorf("BillValid of a parcel over all of %d legs: got %v", n, got)
		}
		if impl.BillValid(n, byParcel(0, n+1, 5)) || impl.BillValid(n, byParcel(-1, n, 5)) {
			t.Errorf("BillValid of a parcel over more than %d legs holds", n)
		}
		if loads, ok := impl.BillLoads(n, byParcel(0, 1, 5)); ok != fits || ok && (len(loads) != n || loads[0] != 5 || sumOf(loads) != 5) || !ok && len(loads) > 0 {
			t.Errorf("BillLoads of %d legs gives %v and %v", n, loads, ok)
		}
	}
}

func TestParcelAtLimits(t *testing.T) {
	stops := append(farNumbers(), -2, -1, 0, 1, 2, 3, 4, 5, 6, 7, 8, 9)
	for n := 1; n <= 7; n++ {
		for _, from := range stops {
			for _, to := range stops {
				for _, weight := range append(farNumbers(), -99, -1, 0, 1, 2, 98, 99, 100, 101, 300) {
					p := impl.Parcel{From: from, To: to, Weight: weight}
					fits := 0 <= from && from < to && to <= n && 1 <= weight && weight <= 99
					bill := []impl.Parcel{p}
					if got := impl.BillValid(n, bill); got != fits {
						t.Fatalf("BillValid of %d legs and %v: got %v", n, p, got)
					}
					got, ok := impl.BillAdd(n, nil, p)
					parcelsDiffer(t, fmt.Sprintf("BillAdd of %v", p), got, ok, bill, fits)
					turned, ok := impl.BillTurn(n, bill)
					parcelsDiffer(t, fmt.Sprintf("BillTurn of %v", p), turned, ok, []impl.Parcel{{From: n - to, To: n - from, Weight: weight}}, fits)
				}
			}
		}
	}
}

func TestNumberOfParcels(t *testing.T) {
	for number := range 16 {
		bill, c := sameParcels(number, 1, 3, 2), coachBill{"equal parcels", 3, nil}
		if fits := impl.BillValid(3, bill); fits != (number <= 12) {
			t.Errorf("BillValid of %d parcels: got %v", number, fits)
		}
		if number > 12 {
			checkNoBill(t, c.with(bill))
			continue
		}
		loads, ok := impl.BillLoads(3, bill)
		numbersDiffer(t, "BillLoads", loads, ok, []int{0, 2 * number, 2 * number})
		if moves, pound := impl.BillMoves(3, bill), impl.BillPound(3, bill); moves != number*(number-1)/2 || pound != 4*number {
			t.Errorf("BillMoves of %d parcels is %d, and BillPound %d", number, moves, pound)
		}
	}
}

func TestNoParcelsAtAll(t *testing.T) {
	for n := 1; n <= 7; n++ {
		for _, bill := range [][]impl.Parcel{nil, {}} {
			c := coachBill{"no parcels", n, bill}
			loads, ok := impl.BillLoads(n, bill)
			numbersDiffer(t, "BillLoads", loads, ok, make([]int, n))
			if impl.BillMoves(n, bill) != 0 || impl.BillPound(n, bill) != 0 || !impl.BillNested(n, bill) {
				t.Errorf("BillMoves of no parcels is %d, and BillPound %d", impl.BillMoves(n, bill), impl.BillPound(n, bill))
			}
			for stop := range n + 1 {
				stack, ok := impl.BillStack(n, bill, stop)
				numbersDiffer(t, "BillStack", stack, ok, nil)
			}
			for _, p := range carriagesOf(n) {
				if room := c.room(p); room != 300 {
					t.Errorf("BillRoom of no parcels is %d", room)
				}
			}
			for _, k := range append(farNumbers(), -1, 0, 1) {
				checkNoBillDrop(t, c, k)
			}
			order, ok := impl.BillOrder(n, bill)
			parcelsDiffer(t, "BillOrder", order, ok, nil, true)
			turned, ok := impl.BillTurn(n, bill)
			parcelsDiffer(t, "BillTurn", turned, ok, nil, true)
		}
	}
}

func TestOneParcel(t *testing.T) {
	for n := 1; n <= 7; n++ {
		for _, p := range carriagesOf(n) {
			p.Weight = 37
			c := coachBill{"one parcel", n, []impl.Parcel{p}}
			if impl.BillMoves(n, c.bill) != 0 || !impl.BillNested(n, c.bill) || impl.BillPound(n, c.bill) != 37*(p.To-p.From) {
				t.Errorf("BillMoves of %v is %d, and BillPound %d", p, impl.BillMoves(n, c.bill), impl.BillPound(n, c.bill))
			}
			for stop, load := range append(c.loads(t), 0) {
				on, stack := 0, c.stack(t, stop)
				if p.From <= stop && stop < p.To {
					on = 1
				}
				if load != 37*on || len(stack) != on || on == 1 && stack[0] != 0 {
					t.Errorf("with %v alone there are %d pounds and the stack %v behind the stop %d", p, load, stack, stop)
				}
			}
			left, ok := impl.BillDrop(n, c.bill, 0)
			parcelsDiffer(t, "BillDrop of the only one", left, ok, nil, true)
			checkNoBillDrop(t, c, 1)
			checkNoBillDrop(t, c, -1)
		}
	}
}

func TestWeightsUpToLoadMax(t *testing.T) {
	for n := 1; n <= 7; n++ {
		for _, p := range carriagesOf(n) {
			for weight := 1; weight <= 99; weight++ {
				// Three parcels, and a fourth one that just fits or is a pound too heavy on one leg.
				p.Weight = weight
				bill, rest := append(sameParcels(2, 0, n, 99), p), 300-198-weight
				for leg := range n {
					last, room := impl.Parcel{From: leg, To: leg + 1, Weight: rest}, rest
					if leg < p.From || leg >= p.To {
						room = 102
					}
					heavier := last
					heavier.Weight++
					checkLastPound(t, coachBill{"up to LoadMax", n, bill}, last, room)
					checkLastPound(t, coachBill{"up to LoadMax", n, bill}, heavier, room)
				}
			}
		}
	}
}

// checkLastPound adds a parcel for which there is so much room, or less than it needs.
func checkLastPound(t *testing.T, c coachBill, p impl.Parcel, room int) {
	t.Helper()
	fits := p.Weight <= min(room, 99)
	longer := append(slices.Clone(c.bill), p)
	if got := impl.BillValid(c.n, longer); got != fits {
		t.Errorf("BillValid of %v: got %v", longer, got)
	}
	got, ok := impl.BillAdd(c.n, c.bill, p)
	parcelsDiffer(t, "BillAdd", got, ok, longer, fits)
	joined, ok := impl.BillJoin(c.n, c.bill, []impl.Parcel{p})
	parcelsDiffer(t, "BillJoin", joined, ok, longer, fits)
	if got := c.room(p); got != room {
		t.Errorf("BillRoom of %v with %v is %d, want %d", p, c.bill, got, room)
	}
}

func TestRoomBetweenStops(t *testing.T) {
	c := coachBill{"room", 4, append(fullLoad(1, 2), byParcel(2, 3, 99, 2, 3, 99, 2, 3, 99, 3, 4, 60)...)}
	for _, known := range [][3]int{{0, 1, 300}, {0, 2, 0}, {0, 3, 0}, {0, 4, 0}, {1, 2, 0}, {1, 3, 0}, {1, 4, 0}, {2, 3, 3}, {2, 4, 3}, {3, 4, 240}} {
		if got := impl.BillRoom(c.n, c.bill, known[0], known[1]); got != known[2] {
			t.Errorf("BillRoom from %d to %d is %d, want %d", known[0], known[1], got, known[2])
		}
	}
	for stop := range 5 {
		for from := stop; from < 5; from++ {
			checkNoRoom(t, c, from, stop)
		}
		for _, other := range append(farNumbers(), -2, -1, 5, 6, 7, 8, 64) {
			checkNoRoom(t, c, other, stop)
			checkNoRoom(t, c, stop, other)
			checkNoRoom(t, c, other, other)
			checkNoRoom(t, c, other, other+1)
			checkNoRoom(t, c, -1, other)
			checkNoRoom(t, c, other, 5)
		}
	}
}

func TestRoomOfAFullList(t *testing.T) {
	c := coachBill{"full list", 7, append(sameParcels(11, 2, 4, 1), byParcel(5, 6, 99)...)}
	for _, known := range [][3]int{{0, 7, 201}, {0, 2, 300}, {2, 3, 289}, {2, 4, 289}, {4, 5, 300}, {5, 6, 201}, {6, 7, 300}, {0, 5, 289}} {
		if got := impl.BillRoom(c.n, c.bill, known[0], known[1]); got != known[2] {
			t.Errorf("BillRoom from %d to %d is %d, want %d", known[0], known[1], got, known[2])
		}
		checkNoBillAdd(t, c, impl.Parcel{From: known[0], To: known[1], Weight: 1})
		checkNoBillAdd(t, c, impl.Parcel{From: known[0], To: known[1], Weight: 99})
		checkNoBillJoin(t, c, byParcel(known[0], known[1], 1))
	}
	eleven, ok := impl.BillDrop(7, c.bill, 11)
	if added, addedOk := impl.BillAdd(7, eleven, impl.Parcel{From: 0, To: 7, Weight: 99}); !ok || !addedOk || len(added) != 12 {
		t.Errorf("BillAdd of the last parcel that there is room for gives %v and %v", added, addedOk)
	}
}

func TestParcelsThatCannotBeAdded(t *testing.T) {
	for _, c := range []coachBill{{"no parcels", 7, nil}, {"plain", 4, plainBill()}, {"one leg", 1, byParcel(0, 1, 1)}, {"all stops", 7, toLastStop(7)}} {
		for _, p := range noSingleParcels(c.n) {
			checkNoBillAdd(t, c, p)
			checkNoBillJoin(t, c, []impl.Parcel{p})
			checkNoBillJoin(t, coachBill{c.name, c.n, []impl.Parcel{p}}, c.bill)
		}
	}
	full := coachBill{"LoadMax", 3, fullLoad(1, 2)}
	for _, p := range byParcel(1, 2, 1, 0, 2, 1, 1, 3, 1, 0, 3, 1, 0, 3, 99) {
		checkNoBillAdd(t, full, p)
	}
	for _, p := range byParcel(0, 1, 1, 0, 1, 99, 2, 3, 1, 2, 3, 99) {
		got, ok := impl.BillAdd(3, full.bill, p)
		parcelsDiffer(t, "BillAdd beside a full load", got, ok, append(fullLoad(1, 2), p), true)
	}
}

func TestParcelsAddedToTheLimit(t *testing.T) {
	bill := []impl.Parcel{}
	for i := range 12 {
		p := impl.Parcel{From: i % 6, To: i%6 + 1 + i/6, Weight: 1 + i}
		longer, ok := impl.BillAdd(7, bill, p)
		parcelsDiffer(t, "BillAdd", longer, ok, append(slices.Clone(bill), p), true)
		bill = longer
	}
	for _, p := range carriagesOf(7) {
		p.Weight = 1
		checkNoBillAdd(t, coachBill{"ParcelsMax", 7, bill}, p)
	}
}

func TestDroppedParcels(t *testing.T) {
	for _, c := range []coachBill{{"plain", 4, plainBill()}, {"ParcelsMax", 7, slices.Concat(toLastStop(6), fromFirstStop(6))}, {"two", 2, byParcel(0, 1, 5, 0, 1, 6)}} {
		for k := range c.bill {
			got, ok := impl.BillDrop(c.n, c.bill, k)
			parcelsDiffer(t, "BillDrop", got, ok, slices.Concat(c.bill[:k], c.bill[k+1:]), true)
		}
		for _, k := range append(farNumbers(), -12, -2, -1, len(c.bill), len(c.bill)+1, 13, 100) {
			checkNoBillDrop(t, c, k)
		}
	}
}

func TestStacksOfStops(t *testing.T) {
	c := coachBill{"plain", 4, plainBill()}
	for stop, want := range [][]int{{0, 1}, {0, 1, 2, 4}, {1, 4, 3}, {4, 3}, {}} {
		got, ok := impl.BillStack(4, c.bill, stop)
		numbersDiffer(t, fmt.Sprintf("BillStack of the stop %d", stop), got, ok, want)
	}
	for _, c := range slices.Concat(namedBills(), []coachBill{{"no parcels", 1, nil}}) {
		for _, stop := range append(farNumbers(), -7, -2, -1, c.n+1, c.n+2, 8, 9, 100) {
			checkNoStack(t, c, stop)
		}
	}
}

func TestOrderOfEqualStops(t *testing.T) {
	for _, c := range []struct {
		name string
		bill []impl.Parcel
		want []impl.Parcel
	}{
		{"equal From", byParcel(1, 3, 9, 1, 5, 8, 1, 2, 7, 1, 4, 6), byParcel(1, 5, 8, 1, 4, 6, 1, 3, 9, 1, 2, 7)},
		{"equal To", byParcel(3, 5, 1, 1, 5, 2, 4, 5, 3, 0, 5, 4), byParcel(0, 5, 4, 1, 5, 2, 3, 5, 1, 4, 5, 3)},
		{"both stops equal", byParcel(2, 4, 9, 2, 4, 1, 2, 4, 5, 2, 4, 3), byParcel(2, 4, 9, 2, 4, 1, 2, 4, 5, 2, 4, 3)},
		{"both stops equal, by turns with others", byParcel(2, 4, 9, 0, 1, 2, 2, 4, 1, 2, 5, 8, 2, 4, 5, 0, 1, 1, 2, 3, 7, 2, 4, 3), byParcel(0, 1, 2, 0, 1, 1, 2, 5, 8, 2, 4, 9, 2, 4, 1, 2, 4, 5, 2, 4, 3, 2, 3, 7)},
		{"lighter ones stay behind heavier ones", byParcel(1, 2, 99, 1, 2, 1, 0, 2, 1, 0, 2, 99), byParcel(0, 2, 1, 0, 2, 99, 1, 2, 99, 1, 2, 1)},
		{"later To with later From", byParcel(1, 5, 1, 0, 1, 2), byParcel(0, 1, 2, 1, 5, 1)},
		{"in order", byParcel(0, 5, 1, 0, 3, 2, 1, 4, 3, 1, 2, 4, 4, 5, 5), byParcel(0, 5, 1, 0, 3, 2, 1, 4, 3, 1, 2, 4, 4, 5, 5)},
		{"in the opposite order", byParcel(4, 5, 5, 1, 2, 4, 1, 4, 3, 0, 3, 2, 0, 5, 1), byParcel(0, 5, 1, 0, 3, 2, 1, 4, 3, 1, 2, 4, 4, 5, 5)},
	} {
		got, ok := impl.BillOrder(5, c.bill)
		parcelsDiffer(t, c.name+": BillOrder", got, ok, c.want, true)
	}
}

func TestTurnedParcels(t *testing.T) {
	for _, c := range []struct {
		n    int
		bill []impl.Parcel
		want []impl.Parcel
	}{
		{1, byParcel(0, 1, 99), byParcel(0, 1, 99)},
		{7, byParcel(0, 7, 1), byParcel(0, 7, 1)},
		{7, byParcel(0, 1, 5, 6, 7, 6, 2, 4, 7), byParcel(6, 7, 5, 0, 1, 6, 3, 5, 7)},
		{4, plainBill(), byParcel(2, 4, 10, 1, 4, 20, 2, 3, 5, 0, 2, 40, 0, 3, 7)},
		{3, plainBill()[:3], byParcel(1, 3, 10, 0, 3, 20, 1, 2, 5)},
	} {
		got, ok := impl.BillTurn(c.n, c.bill)
		parcelsDiffer(t, "BillTurn", got, ok, c.want, true)
	}
}

func TestJoinedWithNoParcels(t *testing.T) {
	for _, c := range namedBills() {
		for _, none := range [][]impl.Parcel{nil, {}} {
			got, ok := impl.BillJoin(c.n, c.bill, none)
			parcelsDiffer(t, "BillJoin with no parcels behind", got, ok, c.bill, true)
			got, ok = impl.BillJoin(c.n, none, c.bill)
			parcelsDiffer(t, "BillJoin with no parcels first", got, ok, c.bill, true)
			got, ok = impl.BillJoin(c.n, none, none)
			parcelsDiffer(t, "BillJoin of no parcels", got, ok, nil, true)
		}
	}
}

func TestJoinedBillsAtLimits(t *testing.T) {
	for first := range 13 {
		for second := range 13 {
			a, b := sameParcels(first, 0, 1, 1), sameParcels(second, 0, 1, 2)
			got, ok := impl.BillJoin(1, a, b)
			parcelsDiffer(t, "BillJoin", got, ok, slices.Concat(a, b), first+second <= 12)
		}
	}
	for _, c := range []struct {
		a    []impl.Parcel
		b    []impl.Parcel
		fits bool
	}{
		{fullLoad(0, 1), fullLoad(1, 2), true},
		{fullLoad(1, 2), fullLoad(0, 1), true},
		{fullLoad(0, 2), byParcel(2, 3, 99), true},
		{fullLoad(0, 2), byParcel(1, 3, 1), false},
		{byParcel(1, 3, 1), fullLoad(0, 2), false},
		{fullLoad(0, 3), fullLoad(0, 3), false},
		{sameParcels(2, 0, 3, 99), sameParcels(1, 0, 3, 99), true},
		{sameParcels(2, 0, 3, 99), byParcel(0, 2, 99, 0, 1, 3, 1, 3, 3), true},
		{sameParcels(2, 0, 3, 99), byParcel(0, 2, 99, 0, 1, 3, 1, 3, 4), false},
		{sameParcels(2, 0, 3, 99), byParcel(0, 2, 99, 0, 2, 4), false},
		{sameParcels(2, 0, 3, 99), byParcel(1, 3, 99, 2, 3, 4), false},
	} {
		got, ok := impl.BillJoin(3, c.a, c.b)
		parcelsDiffer(t, "BillJoin", got, ok, slices.Concat(c.a, c.b), c.fits)
	}
	// Two lists of which each is no way-bill, although the parcels would be light enough.
	checkNoBillJoin(t, coachBill{"weight 0", 3, byParcel(0, 1, 0)}, byParcel(0, 1, 0))
	checkNoBillJoin(t, coachBill{"weights that are 1 together", 3, byParcel(0, 1, 1<<63-1, 0, 1, 2)}, byParcel(0, 1, -1<<63))
}
