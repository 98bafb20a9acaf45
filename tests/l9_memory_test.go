package tests

import (
	"slices"
	"testing"

	"loop.example/mailcoaches/impl"
)

// parcelMark stands where no function may write.
var parcelMark = impl.Parcel{From: -7, To: -7, Weight: -7}

// callAllBills calls all functions of the chapter with two lists and a number, overwrites all results, and calls a check after each.
func callAllBills(n int, bill []impl.Parcel, other []impl.Parcel, k int, check func(name string)) {
	impl.BillValid(n, bill)
	check("BillValid")
	loads, _ := impl.BillLoads(n, bill)
	overwrite(loads, -7)
	check("BillLoads")
	impl.BillRoom(n, bill, 0, k)
	check("BillRoom")
	for _, p := range byParcel(0, 1, 1, 0, n, 99, 0, k, 5, k, n, 5, 0, 0, 0) {
		longer, _ := impl.BillAdd(n, bill, p)
		overwrite(longer, parcelMark)
		check("BillAdd")
	}
	for _, index := range []int{0, k, len(bill) - 1, len(bill)} {
		fewer, _ := impl.BillDrop(n, bill, index)
		overwrite(fewer, parcelMark)
		check("BillDrop")
	}
	for stop := range 9 {
		stack, _ := impl.BillStack(n, bill, stop)
		overwrite(stack, -7)
		check("BillStack")
	}
	impl.BillMoves(n, bill)
	check("BillMoves")
	impl.BillNested(n, bill)
	check("BillNested")
	ordered, _ := impl.BillOrder(n, bill)
	overwrite(ordered, parcelMark)
	check("BillOrder")
	impl.BillPound(n, bill)
	check("BillPound")
	turned, _ := impl.BillTurn(n, bill)
	overwrite(turned, parcelMark)
	check("BillTurn")
	joined, _ := impl.BillJoin(n, bill, other)
	overwrite(joined, parcelMark)
	check("BillJoin")
	joined, _ = impl.BillJoin(n, other, bill)
	overwrite(joined, parcelMark)
	check("BillJoin the other way round")
}

// TestArgumentsOfBills checks that no argument is written into, and that no result shares memory with an argument.
func TestArgumentsOfBills(t *testing.T) {
	for i, c := range slices.Concat(namedBills(), mixedBills(200), noBills()) {
		for _, list := range [][]impl.Parcel{nil, {}, byParcel(0, 1, 1), toLastStop(min(max(c.n, 1), 7)), fullLoad(0, 1)} {
			bill, billMemory := roomy(c.bill, parcelMark)
			other, otherMemory := roomy(list, parcelMark)
			billBefore, otherBefore := slices.Clone(billMemory), slices.Clone(otherMemory)
			callAllBills(c.n, bill, other, i%8, func(name string) {
				if !slices.Equal(billMemory, billBefore) || !slices.Equal(otherMemory, otherBefore) {
					t.Fatalf("%s: after %s the parcels are %v, and the others %v", c.name, name, billMemory, otherMemory)
				}
			})
		}
	}
}

// TestBillJoinedWithItself checks that the list that is given twice is not written into.
func TestBillJoinedWithItself(t *testing.T) {
	bill, memory := roomy(toLastStop(6), parcelMark)
	before := slices.Clone(memory)
	both, ok := impl.BillJoin(6, bill, bill)
	parcelsDiffer(t, "BillJoin", both, ok, slices.Concat(bill, bill), true)
	overwrite(both, impl.Parcel{})
	if !slices.Equal(memory, before) {
		t.Errorf("after BillJoin the parcels are %v", memory)
	}
}

// TestResultsOfBills checks that nothing is kept from call to call.
func TestResultsOfBills(t *testing.T) {
	eachBill(t, func(t *testing.T, c coachBill) {
		checkAgain(t, "BillLoads", -7, func() ([]int, bool) { return impl.BillLoads(c.n, c.bill) })
		checkAgain(t, "BillOrder", parcelMark, func() ([]impl.Parcel, bool) { return impl.BillOrder(c.n, c.bill) })
		checkAgain(t, "BillTurn", parcelMark, func() ([]impl.Parcel, bool) { return impl.BillTurn(c.n, c.bill) })
		checkAgain(t, "BillJoin", parcelMark, func() ([]impl.Parcel, bool) { return impl.BillJoin(c.n, c.bill, nil) })
		checkAgain(t, "BillJoin with the other list", parcelMark, func() ([]impl.Parcel, bool) { return impl.BillJoin(c.n, nil, c.bill) })
		for k := range c.bill {
			checkAgain(t, "BillDrop", parcelMark, func() ([]impl.Parcel, bool) { return impl.BillDrop(c.n, c.bill, k) })
		}
		for stop := range c.n + 1 {
			checkAgain(t, "BillStack", -7, func() ([]int, bool) { return impl.BillStack(c.n, c.bill, stop) })
		}
		p := impl.Parcel{From: 0, To: 1, Weight: 1}
		if modelBill(c.n, append(slices.Clone(c.bill), p)) {
			checkAgain(t, "BillAdd", parcelMark, func() ([]impl.Parcel, bool) { return impl.BillAdd(c.n, c.bill, p) })
		}
	})
}

// TestBillsBesideOther checks that what is asked in between changes no answer.
func TestBillsBesideOther(t *testing.T) {
	eachBill(t, func(t *testing.T, c coachBill) {
		moves, stack := impl.BillMoves(c.n, c.bill), c.stack(t, c.n/2)
		before := slices.Clone(stack)
		impl.BillMoves(7, turnedOver(toLastStop(7)))
		impl.BillStack(7, fromFirstStop(7), 0)
		impl.BillLoads(7, sameParcels(12, 0, 7, 25))
		if again := impl.BillMoves(c.n, c.bill); again != moves || !slices.Equal(stack, before) || !slices.Equal(c.stack(t, c.n/2), before) {
			t.Errorf("BillMoves is %d and then %d, and BillStack %v and then %v", moves, again, before, stack)
		}
	})
}
