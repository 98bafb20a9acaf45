package tests

import (
	"fmt"
	"slices"
	"testing"

	"loop.example/mailcoaches/impl"
)

// Parcels to one stop are taken out in the order of the way-bill, each one from where it lies when those ahead of it are gone.

// knownStop is a way-bill, its stacks behind the stops from 0 on, and its moves.
type knownStop struct {
	coachBill
	stacks [][]int
	moves  int
}

// checkKnownStop checks the stack behind each stop, and the moves up to each stop and of all.
func checkKnownStop(t *testing.T, c knownStop) {
	t.Helper()
	for stop, want := range c.stacks {
		got, ok := impl.BillStack(c.n, c.bill, stop)
		numbersDiffer(t, fmt.Sprintf("%s: BillStack of the stop %d", c.name, stop), got, ok, want)
	}
	if got := impl.BillMoves(c.n, c.bill); got != c.moves {
		t.Errorf("%s: BillMoves is %d, want %d", c.name, got, c.moves)
	}
	if got := impl.BillNested(c.n, c.bill); got != (c.moves == 0) {
		t.Errorf("%s: BillNested: got %v", c.name, got)
	}
}

func TestParcelsToOneStop(t *testing.T) {
	for _, c := range []knownStop{
		{coachBill{"in the order of the stack", 3, byParcel(0, 3, 1, 1, 3, 2, 2, 3, 3)}, [][]int{{0}, {0, 1}, {0, 1, 2}, {}}, 3},
		{coachBill{"against the stack", 3, byParcel(2, 3, 1, 1, 3, 2, 0, 3, 3)}, [][]int{{2}, {2, 1}, {2, 1, 0}, {}}, 0},
		{coachBill{"first the middle one, then the lowest one", 3, byParcel(1, 3, 1, 0, 3, 2, 2, 3, 3)}, [][]int{{1}, {1, 0}, {1, 0, 2}, {}}, 2},
		{coachBill{"first the middle one, then the highest one", 3, byParcel(1, 3, 1, 2, 3, 2, 0, 3, 3)}, [][]int{{2}, {2, 0}, {2, 0, 1}, {}}, 1},
		{coachBill{"first the lowest one, then the highest one", 3, byParcel(0, 3, 1, 2, 3, 2, 1, 3, 3)}, [][]int{{0}, {0, 2}, {0, 2, 1}, {}}, 2},
		{coachBill{"first the highest one, then the lowest one", 3, byParcel(2, 3, 1, 0, 3, 2, 1, 3, 3)}, [][]int{{1}, {1, 2}, {1, 2, 0}, {}}, 1},
		{coachBill{"below one that goes on", 3, byParcel(0, 2, 1, 0, 2, 2, 1, 3, 3)}, [][]int{{0, 1}, {0, 1, 2}, {2}, {}}, 3},
		{coachBill{"above one that goes on", 3, byParcel(0, 3, 1, 0, 2, 2, 1, 2, 3)}, [][]int{{0, 1}, {0, 1, 2}, {0}, {}}, 1},
		{coachBill{"on both sides of one that goes on", 3, byParcel(0, 2, 1, 0, 3, 2, 1, 2, 3)}, [][]int{{0, 1}, {0, 1, 2}, {1}, {}}, 2},
		{coachBill{"on both sides of one that goes on, the upper one first", 3, byParcel(1, 2, 1, 0, 2, 2, 0, 3, 3)}, [][]int{{1, 2}, {1, 2, 0}, {2}, {}}, 1},
		{coachBill{"below several that go on", 4, byParcel(0, 2, 1, 0, 4, 2, 1, 3, 3, 1, 4, 4)}, [][]int{{0, 1}, {0, 1, 2, 3}, {1, 2, 3}, {1, 3}, {}}, 5},
		{coachBill{"two stops by turns", 2, byParcel(0, 1, 1, 0, 2, 2, 0, 1, 3, 0, 2, 4, 0, 1, 5)}, [][]int{{0, 1, 2, 3, 4}, {1, 3}, {}}, 7},
	} {
		checkKnownStop(t, c)
	}
}

func TestParcelsFromOneStop(t *testing.T) {
	for _, c := range []knownStop{
		{coachBill{"the least To first", 3, byParcel(0, 1, 1, 0, 2, 2, 0, 3, 3)}, [][]int{{0, 1, 2}, {1, 2}, {2}, {}}, 3},
		{coachBill{"the greatest To first", 3, byParcel(0, 3, 1, 0, 2, 2, 0, 1, 3)}, [][]int{{0, 1, 2}, {0, 1}, {0}, {}}, 0},
		{coachBill{"the least To between", 3, byParcel(0, 2, 1, 0, 1, 2, 0, 3, 3)}, [][]int{{0, 1, 2}, {0, 2}, {2}, {}}, 2},
		{coachBill{"the greatest To between", 3, byParcel(0, 2, 1, 0, 3, 2, 0, 1, 3)}, [][]int{{0, 1, 2}, {0, 1}, {1}, {}}, 1},
		{coachBill{"one at another stop between them in the list", 4, byParcel(1, 3, 1, 0, 2, 2, 1, 4, 3)}, [][]int{{1}, {1, 0, 2}, {0, 2}, {2}, {}}, 3},
		{coachBill{"above one from the stop ahead that is behind them in the list", 4, byParcel(1, 3, 1, 1, 4, 2, 0, 4, 3)}, [][]int{{2}, {2, 0, 1}, {2, 0, 1}, {2, 1}, {}}, 1},
	} {
		checkKnownStop(t, c)
	}
}

func TestParcelsOutAndInAtOneStop(t *testing.T) {
	for _, c := range []knownStop{
		{coachBill{"one out, one in", 2, byParcel(0, 1, 1, 1, 2, 2)}, [][]int{{0}, {1}, {}}, 0},
		{coachBill{"one in, one out in the list", 2, byParcel(1, 2, 1, 0, 1, 2)}, [][]int{{1}, {0}, {}}, 0},
		{coachBill{"two out, two in", 2, byParcel(0, 1, 1, 0, 1, 2, 1, 2, 3, 1, 2, 4)}, [][]int{{0, 1}, {2, 3}, {}}, 2},
		{coachBill{"out and in by turns", 2, byParcel(1, 2, 1, 0, 1, 2, 1, 2, 3, 0, 1, 4)}, [][]int{{1, 3}, {0, 2}, {}}, 2},
		{coachBill{"one stays below", 3, byParcel(0, 3, 1, 0, 1, 2, 1, 2, 3, 2, 3, 4)}, [][]int{{0, 1}, {0, 2}, {0, 3}, {}}, 1},
		{coachBill{"one stays above", 2, byParcel(0, 1, 1, 0, 2, 2, 1, 2, 3)}, [][]int{{0, 1}, {1, 2}, {}}, 2},
		{coachBill{"one on each leg", 7, byParcel(6, 7, 1, 5, 6, 1, 4, 5, 1, 3, 4, 1, 2, 3, 1, 1, 2, 1, 0, 1, 1)}, [][]int{{6}, {5}, {4}, {3}, {2}, {1}, {0}, {}}, 0},
		{coachBill{"LoadMax out, LoadMax in", 2, slices.Concat(fullLoad(1, 2), fullLoad(0, 1))}, [][]int{{4, 5, 6, 7}, {0, 1, 2, 3}, {}}, 12},
	} {
		checkKnownStop(t, c)
	}
}

func TestParcelsThatCrossOrNot(t *testing.T) {
	for _, c := range []knownStop{
		{coachBill{"crossing", 3, byParcel(0, 2, 1, 1, 3, 2)}, [][]int{{0}, {0, 1}, {1}, {}}, 1},
		{coachBill{"crossing, the later one first", 3, byParcel(1, 3, 1, 0, 2, 2)}, [][]int{{1}, {1, 0}, {0}, {}}, 1},
		{coachBill{"three that cross", 5, byParcel(0, 3, 1, 1, 4, 2, 2, 5, 3)}, [][]int{{0}, {0, 1}, {0, 1, 2}, {1, 2}, {2}, {}}, 3},
		{coachBill{"one inside another one", 3, byParcel(0, 3, 1, 1, 2, 2)}, [][]int{{0}, {0, 1}, {0}, {}}, 0},
		{coachBill{"one inside another one, the inner one first", 3, byParcel(1, 2, 1, 0, 3, 2)}, [][]int{{1}, {1, 0}, {1}, {}}, 0},
		{coachBill{"inside each other", 7, insideEachOther()}, [][]int{{0}, {0, 1}, {0, 1, 2}, {0, 1, 2, 3}, {0, 1, 2}, {0, 1}, {0}, {}}, 0},
		{coachBill{"inside each other, the innermost one first", 7, turnedOver(insideEachOther())}, [][]int{{3}, {3, 2}, {3, 2, 1}, {3, 2, 1, 0}, {3, 2, 1}, {3, 2}, {3}, {}}, 0},
		{coachBill{"both stops equal", 2, byParcel(0, 2, 1, 0, 2, 2)}, [][]int{{0, 1}, {0, 1}, {}}, 1},
		{coachBill{"both stops of three equal", 1, byParcel(0, 1, 1, 0, 1, 2, 0, 1, 3)}, [][]int{{0, 1, 2}, {}}, 3},
		{coachBill{"from one stop to the same one, side by side in the list", 2, byParcel(0, 2, 1, 1, 2, 2, 0, 2, 3, 1, 2, 4)}, [][]int{{0, 2}, {0, 2, 1, 3}, {}}, 5},
		{coachBill{"side by side", 4, byParcel(0, 2, 1, 2, 4, 2)}, [][]int{{0}, {0}, {1}, {1}, {}}, 0},
	} {
		checkKnownStop(t, c)
	}
}

// TestMovedParcelsKeepTheirOrder has a parcel below all others at each stop, which are moved away and put back each time.
func TestMovedParcelsKeepTheirOrder(t *testing.T) {
	bill := byParcel(0, 1, 1, 0, 2, 2, 0, 3, 3, 0, 4, 4, 0, 5, 5, 0, 6, 6, 0, 7, 7, 0, 7, 8, 0, 7, 9)
	checkKnownStop(t, knownStop{coachBill{"the lowest one at each stop", 7, bill}, [][]int{{0, 1, 2, 3, 4, 5, 6, 7, 8}, {1, 2, 3, 4, 5, 6, 7, 8}, {2, 3, 4, 5, 6, 7, 8}, {3, 4, 5, 6, 7, 8}, {4, 5, 6, 7, 8}, {5, 6, 7, 8}, {6, 7, 8}, {}}, 36})
	checkKnownStop(t, knownStop{coachBill{"the highest one at each stop", 7, turnedOver(bill)}, [][]int{{0, 1, 2, 3, 4, 5, 6, 7, 8}, {0, 1, 2, 3, 4, 5, 6, 7}, {0, 1, 2, 3, 4, 5, 6}, {0, 1, 2, 3, 4, 5}, {0, 1, 2, 3, 4}, {0, 1, 2, 3}, {0, 1, 2}, {}}, 3})
}

// orders are all orders of the numbers less than k.
func orders(k int) [][]int {
	if k == 0 {
		return [][]int{{}}
	}
	list := [][]int{}
	for _, shorter := range orders(k - 1) {
		for at := range k {
			list = append(list, slices.Insert(slices.Clone(shorter), at, k-1))
		}
	}
	return list
}

// TestAllOrdersToOneStop has a parcel from each stop to the last one, in all orders: one is moved for each that lies below it and is ahead of it in the list.
func TestAllOrdersToOneStop(t *testing.T) {
	for n := 1; n <= 6; n++ {
		for _, order := range orders(n) {
			bill, moves := []impl.Parcel{}, 0
			for i, from := range order {
				bill = append(bill, impl.Parcel{From: from, To: n, Weight: 1 + i})
				for _, ahead := range order[:i] {
					if ahead < from {
						moves++
					}
				}
			}
			if got := impl.BillMoves(n, bill); got != moves {
				t.Errorf("BillMoves of the From %v is %d, want %d", order, got, moves)
			}
		}
	}
}

// TestAllOrdersFromOneStop has a parcel from the first stop to each other one, in all orders: one is moved for each with a lesser To that is ahead of it in the list.
func TestAllOrdersFromOneStop(t *testing.T) {
	for n := 1; n <= 6; n++ {
		for _, order := range orders(n) {
			bill, moves := []impl.Parcel{}, 0
			for i, to := range order {
				bill = append(bill, impl.Parcel{From: 0, To: to + 1, Weight: 1 + i})
				for _, ahead := range order[:i] {
					if ahead < to {
						moves++
					}
				}
			}
			if got := impl.BillMoves(n, bill); got != moves {
				t.Errorf("BillMoves of the To %v is %d, want %d", order, got, moves)
			}
			stack, ok := impl.BillStack(n, bill, 0)
			numbersDiffer(t, "BillStack of the first stop", stack, ok, ascending(n))
		}
	}
}

// TestEqualParcelsToOneStop has up to ParcelsMax parcels with both stops equal, the lowest of which is taken out first.
func TestEqualParcelsToOneStop(t *testing.T) {
	for n := 1; n <= 7; n++ {
		for _, p := range carriagesOf(n) {
			for number := range 13 {
				bill, stacks := sameParcels(number, p.From, p.To, 25), [][]int{}
				for stop := range n + 1 {
					if p.From <= stop && stop < p.To {
						stacks = append(stacks, ascending(number))
					} else {
						stacks = append(stacks, nil)
					}
				}
				checkKnownStop(t, knownStop{coachBill{"equal parcels", n, bill}, stacks, number * (number - 1) / 2})
			}
		}
	}
}

// TestOrderedParcels checks what BillOrder does to the moves: none are left of parcels from one stop, unless both stops are equal, and those to one stop get as many as they can have.
func TestOrderedParcels(t *testing.T) {
	fromFirst, ok := impl.BillOrder(7, fromFirstStop(7))
	if moves := impl.BillMoves(7, fromFirst); !ok || moves != 0 {
		t.Errorf("BillOrder gives %v and %v, and BillMoves of it is %d", fromFirst, ok, moves)
	}
	// The order of the list is that of the stack then, so that they are taken out of it from the lowest one on.
	toLast, ok := impl.BillOrder(7, turnedOver(toLastStop(7)))
	if moves := impl.BillMoves(7, toLast); !ok || moves != 21 {
		t.Errorf("BillOrder gives %v and %v, and BillMoves of it is %d", toLast, ok, moves)
	}
	// Both stops equal: the moves stay.
	same, ok := impl.BillOrder(7, sameParcels(4, 2, 6, 9))
	if moves := impl.BillMoves(7, same); !ok || moves != 6 {
		t.Errorf("BillOrder gives %v and %v, and BillMoves of it is %d", same, ok, moves)
	}
}

// TestOneMoreToTheStop adds a parcel to a stop to which others are carried: it is taken out last, so just those above these others are moved.
func TestOneMoreToTheStop(t *testing.T) {
	for last := range 7 {
		bill := toLastStop(7)
		longer, ok := impl.BillAdd(7, bill, impl.Parcel{From: last, To: 7, Weight: 1})
		if moves := impl.BillMoves(7, longer); !ok || moves != 21+last+1 {
			t.Errorf("with one more from the stop %d BillMoves is %d", last, moves)
		}
		joined, ok := impl.BillJoin(7, byParcel(last, 7, 1), bill)
		if moves := impl.BillMoves(7, joined); !ok || moves != 21+7-last {
			t.Errorf("with one more from the stop %d ahead of all BillMoves is %d", last, moves)
		}
	}
}
