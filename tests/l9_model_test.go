package tests

import (
	"slices"
	"testing"

	"loop.example/mailcoaches/impl"
)

// The model has no stack: it holds each two parcels against each other, and weighs leg by leg.

// modelLoad returns the weight of all parcels on a leg.
func modelLoad(bill []impl.Parcel, leg int) int {
	load := 0
	for _, p := range bill {
		if p.From <= leg && leg < p.To {
			load += p.Weight
		}
	}
	return load
}

// modelLoads returns the loads of all legs.
func modelLoads(n int, bill []impl.Parcel) []int {
	loads := []int{}
	for leg := range n {
		loads = append(loads, modelLoad(bill, leg))
	}
	return loads
}

// modelParcel reports whether a parcel can be on a way-bill of a coach of n legs.
func modelParcel(n int, p impl.Parcel) bool {
	return p.From >= 0 && p.To <= n && p.From < p.To && p.Weight >= 1 && p.Weight <= 99
}

// modelBill reports whether a list is a way-bill.
func modelBill(n int, bill []impl.Parcel) bool {
	if n < 1 || n > 7 || len(bill) > 12 {
		return false
	}
	if slices.ContainsFunc(bill, func(p impl.Parcel) bool { return !modelParcel(n, p) }) {
		return false
	}
	return slices.Max(modelLoads(n, bill)) <= 300
}

// modelRoom adds pound after pound to the load of each leg between two stops.
func modelRoom(n int, bill []impl.Parcel, from int, to int) int {
	if from < 0 || to > n || from >= to {
		return -1
	}
	room, loads := 0, modelLoads(n, bill)
	for slices.Max(loads[from:to])+room+1 <= 300 {
		room++
	}
	return room
}

// modelBelow reports whether a parcel lies below another one when both lie in the coach: it was put in earlier.
func modelBelow(bill []impl.Parcel, i int, k int) bool {
	if bill[i].From != bill[k].From {
		return bill[i].From < bill[k].From
	}
	return i < k
}

// modelTogether reports whether two parcels lie in the coach on the same leg.
func modelTogether(a impl.Parcel, b impl.Parcel) bool {
	return max(a.From, b.From) < min(a.To, b.To)
}

// modelOutFirst reports whether a parcel is taken out ahead of another one.
func modelOutFirst(bill []impl.Parcel, i int, k int) bool {
	if bill[i].To != bill[k].To {
		return bill[i].To < bill[k].To
	}
	return i < k
}

// modelMoved reports whether a parcel is moved when another one is taken out.
func modelMoved(bill []impl.Parcel, i int, k int) bool {
	return i != k && modelTogether(bill[i], bill[k]) && modelBelow(bill, k, i) && modelOutFirst(bill, k, i)
}

// modelMoves counts the pairs of parcels of which the one is moved for the other one.
func modelMoves(bill []impl.Parcel) int {
	moves := 0
	for i := range bill {
		for k := range bill {
			if modelMoved(bill, i, k) {
				moves++
			}
		}
	}
	return moves
}

// modelStack gives each parcel on the leg behind a stop the place above those that lie below it.
func modelStack(bill []impl.Parcel, stop int) []int {
	aboard := []int{}
	for i, p := range bill {
		if p.From <= stop && stop < p.To {
			aboard = append(aboard, i)
		}
	}
	stack := make([]int, len(aboard))
	for _, i := range aboard {
		place := 0
		for _, k := range aboard {
			if k != i && modelBelow(bill, k, i) {
				place++
			}
		}
		stack[place] = i
	}
	return stack
}

// modelOrdered goes through all From, then through all To from the last stop on.
func modelOrdered(n int, bill []impl.Parcel) []impl.Parcel {
	ordered := []impl.Parcel{}
	for from := range n {
		for to := n; to > from; to-- {
			for _, p := range bill {
				if p.From == from && p.To == to {
					ordered = append(ordered, p)
				}
			}
		}
	}
	return ordered
}

// modelPound carries each parcel leg by leg.
func modelPound(bill []impl.Parcel) int {
	pound := 0
	for _, p := range bill {
		for stop := p.From; stop != p.To; stop++ {
			pound += p.Weight
		}
	}
	return pound
}

// modelTurned counts the stops of a coach that goes back.
func modelTurned(n int, bill []impl.Parcel) []impl.Parcel {
	back, turned := map[int]int{}, []impl.Parcel{}
	for stop := n; stop >= 0; stop-- {
		back[stop] = len(back)
	}
	for _, p := range bill {
		turned = append(turned, impl.Parcel{From: back[p.To], To: back[p.From], Weight: p.Weight})
	}
	return turned
}

// parcelsDiffer checks the parcels that a function gives, or that it fails without any.
func parcelsDiffer(t *testing.T, name string, got []impl.Parcel, ok bool, want []impl.Parcel, fits bool) {
	t.Helper()
	if ok != fits || ok && !slices.Equal(got, want) || !ok && len(got) > 0 {
		t.Errorf("%s: got %v and %v, want %v and %v", name, got, ok, want, fits)
	}
}

func TestModelOfBills(t *testing.T) {
	number := map[bool]int{}
	for _, c := range slices.Concat(allBills(), noBills()) {
		want := modelBill(c.n, c.bill)
		if got := impl.BillValid(c.n, c.bill); got != want {
			t.Errorf("%s: BillValid of %d legs and %v: got %v", c.name, c.n, c.bill, got)
		}
		number[want]++
	}
	if number[true] < 2000 || number[false] < 500 {
		t.Errorf("the numbers of way-bills and others are %v", number)
	}
}

func TestModelOfLoads(t *testing.T) {
	full := 0
	eachBill(t, func(t *testing.T, c coachBill) {
		want := modelLoads(c.n, c.bill)
		got, ok := impl.BillLoads(c.n, c.bill)
		numbersDiffer(t, "BillLoads", got, ok, want)
		if slices.Max(want) == impl.LoadMax {
			full++
		}
		if got, want := impl.BillPound(c.n, c.bill), modelPound(c.bill); got != want {
			t.Errorf("BillPound: got %d, want %d", got, want)
		}
	})
	if full < 12 {
		t.Errorf("just %d way-bills have a full load", full)
	}
}

func TestModelOfRoom(t *testing.T) {
	none, much := 0, 0
	eachBill(t, func(t *testing.T, c coachBill) {
		for from := -1; from <= c.n+1; from++ {
			for to := -1; to <= c.n+1; to++ {
				want := modelRoom(c.n, c.bill, from, to)
				if got := impl.BillRoom(c.n, c.bill, from, to); got != want {
					t.Errorf("BillRoom from %d to %d: got %d, want %d", from, to, got, want)
				}
				if want == 0 {
					none++
				}
				if want > 99 && want < 300 {
					much++
				}
			}
		}
	})
	if none < 100 || much < 5000 {
		t.Errorf("there was no room %d times, and much room %d times", none, much)
	}
}

func TestModelOfAddedParcels(t *testing.T) {
	added, failed := 0, 0
	eachBill(t, func(t *testing.T, c coachBill) {
		for i, p := range carriagesOf(c.n) {
			room := modelRoom(c.n, c.bill, p.From, p.To)
			for _, weight := range []int{1, 1 + 7*i%99, 99, room, room + 1} {
				p.Weight = weight
				want := append(slices.Clone(c.bill), p)
				fits := modelBill(c.n, want)
				got, ok := impl.BillAdd(c.n, c.bill, p)
				parcelsDiffer(t, "BillAdd", got, ok, want, fits)
				if ok {
					added++
				} else {
					failed++
				}
			}
		}
	})
	if added < 10000 || failed < 5000 {
		t.Errorf("%d parcels were added, and %d not", added, failed)
	}
}

func TestModelOfDroppedParcels(t *testing.T) {
	eachBill(t, func(t *testing.T, c coachBill) {
		for k := -2; k < 14; k++ {
			want := []impl.Parcel{}
			for i, p := range c.bill {
				if i != k {
					want = append(want, p)
				}
			}
			got, ok := impl.BillDrop(c.n, c.bill, k)
			parcelsDiffer(t, "BillDrop", got, ok, want, len(want) < len(c.bill))
		}
	})
}

func TestModelOfStacks(t *testing.T) {
	high, other := 0, 0
	eachBill(t, func(t *testing.T, c coachBill) {
		for stop := -2; stop <= c.n+2; stop++ {
			got, ok := impl.BillStack(c.n, c.bill, stop)
			if stop < 0 || stop > c.n {
				if ok || len(got) > 0 {
					t.Errorf("BillStack of the stop %d gives %v and %v", stop, got, ok)
				}
				continue
			}
			want := modelStack(c.bill, stop)
			numbersDiffer(t, "BillStack", got, ok, want)
			if len(want) > 3 {
				high++
			}
			if !slices.IsSorted(want) {
				other++
			}
		}
	})
	if high < 500 || other < 1000 {
		t.Errorf("%d stacks were high, and %d not in the order of the way-bill", high, other)
	}
}

// moveKinds are how many pairs of parcels of a kind there were.
type moveKinds struct {
	sameTo      int
	crossing    int
	sameFrom    int
	gone        int
	atOneStop   int
	insideOther int
}

// count counts the pairs of a way-bill of which the first one lies below the second one, or is taken out where this is put in.
func (m *moveKinds) count(bill []impl.Parcel) {
	for i, p := range bill {
		for k, above := range bill {
			if p.To == above.From {
				m.atOneStop++
			}
			if !modelTogether(p, above) || i == k || !modelBelow(bill, i, k) {
				continue
			}
			switch moved := modelMoved(bill, k, i); {
			case p.To == above.To && moved:
				m.sameTo++
			case p.To == above.To:
				m.gone++
			case p.From == above.From && moved:
				m.sameFrom++
			case moved:
				m.crossing++
			default:
				m.insideOther++
			}
		}
	}
}

func TestModelOfMoves(t *testing.T) {
	kinds, nested, most := moveKinds{}, 0, 0
	eachBill(t, func(t *testing.T, c coachBill) {
		want := modelMoves(c.bill)
		if got := impl.BillMoves(c.n, c.bill); got != want {
			t.Errorf("BillMoves: got %d, want %d", got, want)
		}
		if got := impl.BillNested(c.n, c.bill); got != (want == 0) {
			t.Errorf("BillNested: got %v, and BillMoves is %d", got, want)
		}
		if want == 0 && len(c.bill) > 2 {
			nested++
		}
		kinds.count(c.bill)
		most = max(most, want)
	})
	if min(kinds.sameTo, kinds.crossing, kinds.sameFrom, kinds.gone, kinds.atOneStop, kinds.insideOther) < 1000 || nested < 250 || most != 66 {
		t.Errorf("too few pairs of a kind: %+v, %d way-bills without moves, and the most moves are %d", kinds, nested, most)
	}
}

func TestModelOfOrder(t *testing.T) {
	changed := 0
	eachBill(t, func(t *testing.T, c coachBill) {
		want := modelOrdered(c.n, c.bill)
		got, ok := impl.BillOrder(c.n, c.bill)
		parcelsDiffer(t, "BillOrder", got, ok, want, true)
		if !slices.Equal(want, c.bill) {
			changed++
		}
	})
	if changed < 1000 {
		t.Errorf("BillOrder changed just %d way-bills", changed)
	}
}

func TestModelOfTurnedBills(t *testing.T) {
	eachBill(t, func(t *testing.T, c coachBill) {
		got, ok := impl.BillTurn(c.n, c.bill)
		parcelsDiffer(t, "BillTurn", got, ok, modelTurned(c.n, c.bill), true)
	})
}

// eachTwoBills does a test with pairs of way-bills of coaches with as many legs.
func eachTwoBills(t *testing.T, test func(t *testing.T, n int, a []impl.Parcel, b []impl.Parcel)) {
	t.Helper()
	s, byLegs := &numbers{state: 241}, map[int][]coachBill{}
	for _, c := range slices.Concat(namedBills(), mixedBills(300)) {
		byLegs[c.n] = append(byLegs[c.n], c)
	}
	for n := 1; n <= impl.LegsMax; n++ {
		for _, a := range byLegs[n] {
			for range 12 {
				b := byLegs[n][s.below(len(byLegs[n]))]
				test(t, n, a.bill, b.bill)
				if t.Failed() {
					t.Fatalf("way-bills of %d legs %q: %v, and %q: %v", n, a.name, a.bill, b.name, b.bill)
				}
			}
		}
	}
}

func TestModelOfJoinedBills(t *testing.T) {
	joined, tooMany, tooHeavy := 0, 0, 0
	eachTwoBills(t, func(t *testing.T, n int, a []impl.Parcel, b []impl.Parcel) {
		want := append(slices.Clone(a), b...)
		fits := modelBill(n, want)
		got, ok := impl.BillJoin(n, a, b)
		parcelsDiffer(t, "BillJoin", got, ok, want, fits)
		switch {
		case ok:
			joined++
		case len(want) > 12:
			tooMany++
		default:
			tooHeavy++
		}
	})
	if min(joined, tooMany, tooHeavy) < 300 {
		t.Errorf("%d way-bills were joined, %d had too many parcels together, and %d too great loads", joined, tooMany, tooHeavy)
	}
}
