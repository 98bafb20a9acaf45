package tests

import (
	"fmt"
	"slices"
	"testing"

	"loop.example/mailcoaches/impl"
)

// coachBill is a way-bill of a coach, with the name by which a failure is told.
type coachBill struct {
	name string
	n    int
	bill []impl.Parcel
}

// byParcel are parcels out of the From, To and Weight of each.
func byParcel(numbers ...int) []impl.Parcel {
	bill := []impl.Parcel{}
	for p := range slices.Chunk(numbers, 3) {
		bill = append(bill, impl.Parcel{From: p[0], To: p[1], Weight: p[2]})
	}
	return bill
}

// sameParcels are equal parcels.
func sameParcels(number int, from int, to int, weight int) []impl.Parcel {
	return slices.Repeat(byParcel(from, to, weight), number)
}

// fullLoad are parcels that are LoadMax together, from one stop to another one.
func fullLoad(from int, to int) []impl.Parcel {
	return byParcel(from, to, 99, from, to, 99, from, to, 99, from, to, 3)
}

// plainBill is an ordinary way-bill of a coach of 4 legs, with parcels that cross and others that do not.
func plainBill() []impl.Parcel {
	return byParcel(0, 2, 10, 0, 3, 20, 1, 2, 5, 2, 4, 40, 1, 4, 7)
}

// toLastStop are parcels from each stop of a coach of n legs to its last one, in the order of From.
func toLastStop(n int) []impl.Parcel {
	bill := []impl.Parcel{}
	for from := range n {
		bill = append(bill, impl.Parcel{From: from, To: n, Weight: 10 + from})
	}
	return bill
}

// fromFirstStop are parcels from the first stop of a coach of n legs to each other one, in the order of To.
func fromFirstStop(n int) []impl.Parcel {
	bill := []impl.Parcel{}
	for to := 1; to <= n; to++ {
		bill = append(bill, impl.Parcel{From: 0, To: to, Weight: 10 + to})
	}
	return bill
}

// insideEachOther are parcels each of which is carried between the stops of the one ahead.
func insideEachOther() []impl.Parcel {
	return byParcel(0, 7, 1, 1, 6, 2, 2, 5, 3, 3, 4, 4)
}

// turnedOver is a list in the opposite order.
func turnedOver(bill []impl.Parcel) []impl.Parcel {
	turned := slices.Clone(bill)
	slices.Reverse(turned)
	return turned
}

// namedBills are way-bills with the edge cases of the chapter.
func namedBills() []coachBill {
	return slices.Concat(namedLightBills(), namedHeavyBills(), namedStopBills())
}

// namedLightBills are those with few parcels.
func namedLightBills() []coachBill {
	return []coachBill{
		{"nil, 1 leg", 1, nil},
		{"empty, LegsMax legs", 7, []impl.Parcel{}},
		{"plain", 4, plainBill()},
		{"plain, in the opposite order", 4, turnedOver(plainBill())},
		{"one, 1 leg", 1, byParcel(0, 1, 1)},
		{"one of 99 pounds, 1 leg", 1, byParcel(0, 1, 99)},
		{"one, all of LegsMax legs", 7, byParcel(0, 7, 99)},
		{"one on the first leg", 7, byParcel(0, 1, 50)},
		{"one on the last leg", 7, byParcel(6, 7, 50)},
		{"one between", 7, byParcel(3, 5, 50)},
		{"each begins at the To of the one ahead", 7, byParcel(0, 1, 9, 1, 2, 8, 2, 4, 7, 4, 7, 6)},
		{"each ends at the From of the one ahead", 7, byParcel(5, 7, 9, 4, 5, 8, 1, 4, 7, 0, 1, 6)},
		{"two that cross", 3, byParcel(0, 2, 1, 1, 3, 2)},
		{"two that cross, the later one first", 3, byParcel(1, 3, 2, 0, 2, 1)},
		{"like stairs", 7, byParcel(0, 3, 1, 1, 4, 2, 2, 5, 3, 3, 6, 4, 4, 7, 5)},
		{"like stairs, the last one first", 7, turnedOver(byParcel(0, 3, 1, 1, 4, 2, 2, 5, 3, 3, 6, 4, 4, 7, 5))},
		{"inside each other", 7, insideEachOther()},
		{"inside each other, the innermost one first", 7, turnedOver(insideEachOther())},
		{"short ones above a long one", 7, byParcel(0, 7, 30, 0, 1, 1, 1, 3, 2, 3, 4, 3, 4, 7, 4)},
		{"short ones below a long one", 7, byParcel(0, 1, 1, 0, 2, 2, 0, 3, 3, 0, 7, 30)},
		{"both stops equal", 5, byParcel(2, 4, 1, 2, 4, 2, 2, 4, 3)},
		{"two kinds, each with both stops equal, by turns", 6, byParcel(1, 3, 1, 2, 5, 2, 1, 3, 3, 2, 5, 4, 1, 3, 5, 2, 5, 6)},
	}
}

// namedHeavyBills are those with a load of LoadMax or as many parcels as there can be.
func namedHeavyBills() []coachBill {
	return []coachBill{
		{"LoadMax, 1 leg", 1, fullLoad(0, 1)},
		{"LoadMax, all of LegsMax legs", 7, fullLoad(0, 7)},
		{"LoadMax, first leg", 3, fullLoad(0, 1)},
		{"LoadMax, leg between", 3, fullLoad(1, 2)},
		{"LoadMax, last leg", 3, fullLoad(2, 3)},
		{"LoadMax on each leg, all changed at a stop", 2, slices.Concat(fullLoad(0, 1), fullLoad(1, 2))},
		{"LoadMax on each leg, all changed at a stop, the later ones first", 2, slices.Concat(fullLoad(1, 2), fullLoad(0, 1))},
		{"LoadMax on each leg, some changed at a stop", 3, byParcel(0, 3, 99, 0, 2, 99, 0, 1, 99, 0, 2, 3, 1, 3, 99, 2, 3, 99, 2, 3, 3)},
		{"LoadMax less 1", 2, byParcel(0, 2, 99, 0, 2, 99, 0, 2, 99, 1, 2, 2)},
		{"LoadMax of different parcels, 1 of 3 legs", 3, byParcel(0, 2, 99, 1, 3, 99, 1, 2, 99, 0, 3, 3)},
		{"ParcelsMax, 1 leg", 1, sameParcels(12, 0, 1, 1)},
		{"ParcelsMax and LoadMax, 1 leg", 1, sameParcels(12, 0, 1, 25)},
		{"ParcelsMax and LoadMax, all of LegsMax legs", 7, sameParcels(12, 0, 7, 25)},
		{"ParcelsMax, 99 pounds each", 7, slices.Concat(sameParcels(3, 0, 1, 99), sameParcels(3, 1, 3, 99), sameParcels(3, 3, 6, 99), sameParcels(3, 6, 7, 99))},
		{"ParcelsMax, of many stops", 7, slices.Concat(toLastStop(6), fromFirstStop(6))},
		{"ParcelsMax, of many stops, in the opposite order", 7, turnedOver(slices.Concat(toLastStop(6), fromFirstStop(6)))},
		{"less than ParcelsMax", 7, slices.Concat(toLastStop(7), sameParcels(4, 2, 5, 20))},
	}
}

// namedStopBills are those with many parcels to one stop or from one stop.
func namedStopBills() []coachBill {
	return []coachBill{
		{"to the last stop from each", 7, toLastStop(7)},
		{"to the last stop from each, the latest From first", 7, turnedOver(toLastStop(7))},
		{"to the stop 4 of 7, from each, by turns", 7, byParcel(1, 4, 1, 0, 4, 2, 3, 4, 3, 2, 4, 4, 0, 4, 5, 3, 4, 6, 1, 4, 7)},
		{"from the first stop to each", 7, fromFirstStop(7)},
		{"from the first stop to each, the greatest To first", 7, turnedOver(fromFirstStop(7))},
		{"from the stop 3 of 7, to each, by turns", 7, byParcel(3, 5, 1, 3, 7, 2, 3, 4, 3, 3, 6, 4, 3, 4, 5, 3, 7, 6, 3, 5, 7)},
		{"to two stops from one, by turns", 3, byParcel(0, 3, 1, 0, 2, 2, 0, 3, 3, 0, 2, 4, 0, 3, 5)},
		{"out and in at one stop", 4, byParcel(0, 2, 1, 2, 4, 2, 1, 2, 3, 2, 3, 4, 0, 4, 5, 0, 2, 6, 2, 3, 7)},
		{"out and in at each stop", 7, byParcel(0, 2, 9, 1, 3, 9, 2, 4, 9, 3, 5, 9, 4, 6, 9, 5, 7, 9, 0, 1, 9, 6, 7, 9, 0, 7, 9)},
	}
}

// mixedBills are way-bills out of a fixed sequence, light and heavy, with all stops or just a few.
func mixedBills(number int) []coachBill {
	s := &numbers{state: 239}
	bills := []coachBill{}
	for i := range number {
		n := 1 + s.below(impl.LegsMax)
		bills = append(bills, coachBill{fmt.Sprintf("mixed %d", i), n, mixedBill(s, n)})
	}
	return bills
}

// mixedBill returns what fits of a number of parcels, of which some have the stops of others.
func mixedBill(s *numbers, n int) []impl.Parcel {
	bill, heavy, alike := []impl.Parcel{}, []int{3, 40, 99}[s.below(3)], s.below(4)
	for range s.below(25) {
		p := mixedParcel(s, n, heavy)
		if len(bill) > 0 {
			p = likeOther(p, bill[s.below(len(bill))], (s.below(4)+1)*alike)
		}
		if longer := append(bill[:len(bill):len(bill)], p); modelBill(n, longer) {
			bill = longer
		}
	}
	return bill
}

// mixedParcel is a parcel of a coach of n legs, up to a weight.
func mixedParcel(s *numbers, n int, heavy int) impl.Parcel {
	from := s.below(n)
	return impl.Parcel{From: from, To: from + 1 + s.below(n-from), Weight: 1 + s.below(heavy)}
}

// likeOther is a parcel that takes a stop of another one, or both, or begins where the other one ends, so that it may be none.
func likeOther(p impl.Parcel, other impl.Parcel, how int) impl.Parcel {
	switch how {
	case 1, 2:
		p.To = other.To
	case 3:
		p.From = other.From
	case 4, 6:
		p.From, p.To = other.From, other.To
	case 8, 9:
		p.From = other.To
	}
	return p
}

// carriagesOf are parcels between all pairs of stops of a coach of n legs.
func carriagesOf(n int) []impl.Parcel {
	list := []impl.Parcel{}
	for from := range n {
		for to := from + 1; to <= n; to++ {
			list = append(list, impl.Parcel{From: from, To: to})
		}
	}
	return list
}

// smallBills are all way-bills of a coach of n legs with at most a number of parcels, whose weights are different.
func smallBills(n int, most int) []coachBill {
	bills, last := []coachBill{}, [][]impl.Parcel{nil}
	for length := range most + 1 {
		longer := [][]impl.Parcel{}
		for _, bill := range last {
			bills = append(bills, coachBill{fmt.Sprintf("small %d of %d", len(bills), n), n, bill})
			for _, p := range carriagesOf(n) {
				p.Weight = length + 1
				longer = append(longer, append(bill[:length:length], p))
			}
		}
		last = longer
	}
	return bills
}

// allBills are all way-bills on which the tests are done.
func allBills() []coachBill {
	return slices.Concat(namedBills(), mixedBills(500), smallBills(1, 4), smallBills(2, 4), smallBills(3, 4), smallBills(4, 3))
}

// eachBill does a test with all way-bills.
func eachBill(t *testing.T, test func(t *testing.T, c coachBill)) {
	t.Helper()
	for _, c := range allBills() {
		test(t, c)
		if t.Failed() {
			t.Fatalf("way-bill %q: %d legs, %v", c.name, c.n, c.bill)
		}
	}
}

// noSingleParcels are parcels that can be on no way-bill of a coach of n legs.
func noSingleParcels(n int) []impl.Parcel {
	list := byParcel(0, 0, 5, n, n, 5, 1, 0, 5, n, 0, 5, n, n-1, 5, -1, 0, 5, -1, 1, 5, -1, n, 5, -1, -1, 5, -2, -1, 5, -1, n+1, 5, 0, n+1, 5, n-1, n+1, 5, n, n+1, 5, n+1, n+2, 5, n+1, n, 5, 0, -1, 5, 0, 8, 5, 0, 64, 5)
	list = append(list, byParcel(0, n, 0, 0, 1, -1, n-1, n, -99, 0, n, 100, 0, 1, 101, n-1, n, 300, 0, n, 301, 0, 0, 0, 0, 0, -5, n, 0, -5)...)
	for _, far := range farNumbers() {
		list = append(list, byParcel(far, n, 5, 0, far, 5, far, far, 5, far, far+1, 5, far-1, far, 5, 0, n, far, far, far, far, n-1, n, far)...)
	}
	// Sums and products of these weights wrap around, some to what could be a load.
	return append(list, byParcel(0, n, 1<<62, 0, n, 1<<63-1, 0, n, -1<<63+50, 0, 1, 1<<32, 0, n, 1<<61+7, 0, n, (1<<63-1)/n+1)...)
}

// noLoads are lists of parcels that are too heavy together, of a coach of n legs.
func noLoads() []coachBill {
	return []coachBill{
		{"LoadMax and 1, 1 leg", 1, append(fullLoad(0, 1), byParcel(0, 1, 1)...)},
		{"LoadMax and 1, the lightest first, 1 leg", 1, append(byParcel(0, 1, 1), fullLoad(0, 1)...)},
		{"LoadMax and 1, all of LegsMax legs", 7, append(fullLoad(0, 7), byParcel(0, 7, 1)...)},
		{"LoadMax and 1, first leg", 7, append(fullLoad(0, 7), byParcel(0, 1, 1)...)},
		{"LoadMax and 1, leg between", 7, append(fullLoad(0, 7), byParcel(3, 4, 1)...)},
		{"LoadMax and 1, last leg", 7, append(fullLoad(0, 7), byParcel(6, 7, 1)...)},
		{"LoadMax and 1, just on one leg", 3, byParcel(0, 2, 99, 1, 3, 99, 1, 2, 99, 0, 3, 4)},
		{"LoadMax on one leg and more on the next one", 2, append(fullLoad(0, 2), byParcel(1, 2, 99)...)},
		{"four of 99 pounds", 5, sameParcels(4, 2, 3, 99)},
		{"ParcelsMax and 12 more than LoadMax", 7, sameParcels(12, 0, 7, 26)},
		{"ParcelsMax and 1 more than LoadMax", 4, append(sameParcels(11, 1, 3, 25), byParcel(2, 4, 26)...)},
		{"ParcelsMax of 99 pounds", 7, sameParcels(12, 0, 7, 99)},
	}
}

// noBills are lists that are no way-bills.
func noBills() []coachBill {
	bills := append(noLoads(), []coachBill{
		{"thirteen parcels", 7, sameParcels(13, 0, 1, 1)},
		{"thirteen parcels, 1 leg", 1, sameParcels(13, 0, 1, 1)},
		{"thirteen parcels of many stops", 7, append(slices.Concat(toLastStop(6), fromFirstStop(6)), byParcel(6, 7, 1)...)},
		{"far too many parcels", 7, sameParcels(1000, 2, 3, 1)},
		{"far too many parcels of 99 pounds", 7, sameParcels(5000, 0, 7, 99)},
		{"weights whose sum wraps around", 2, byParcel(0, 2, 1<<62, 0, 2, 1<<62, 0, 2, 1<<62, 0, 2, 1<<62)},
		{"weights whose sum wraps around to 48", 2, byParcel(0, 2, 1<<63-1, 0, 2, 1<<63-1, 0, 2, 50)},
		{"weights that are 0 together", 2, byParcel(0, 2, -50, 0, 2, 50)},
		{"a negative weight that makes room", 2, append(byParcel(0, 2, -50), fullLoad(0, 2)...)},
	}...)
	for _, n := range []int{1, 2, 7} {
		others := byParcel(0, 1, 20, n-1, n, 30)
		for i, p := range noSingleParcels(n) {
			bills = append(bills,
				coachBill{fmt.Sprintf("parcel %d of %d legs alone: %v", i, n, p), n, []impl.Parcel{p}},
				coachBill{fmt.Sprintf("parcel %d of %d legs first: %v", i, n, p), n, append([]impl.Parcel{p}, others...)},
				coachBill{fmt.Sprintf("parcel %d of %d legs between: %v", i, n, p), n, slices.Insert(slices.Clone(others), 1, p)},
				coachBill{fmt.Sprintf("parcel %d of %d legs last: %v", i, n, p), n, append(others[:2:2], p)},
			)
		}
	}
	for _, n := range noLegs() {
		for _, bill := range [][]impl.Parcel{nil, {}, byParcel(0, 1, 5), byParcel(0, 7, 5), fullLoad(0, 1), toLastStop(7)} {
			bills = append(bills, coachBill{fmt.Sprintf("a coach of %d legs", n), n, bill})
		}
	}
	return bills
}
