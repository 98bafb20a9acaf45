package tests

import (
	"slices"
	"testing"

	"loop.example/mailcoaches/impl"
)

func TestConstantsOfSeats(t *testing.T) {
	if impl.LegsMax != 7 || impl.InsideMax != 4 || impl.OutsideMax != 6 || impl.BookingsMax != 16 {
		t.Errorf("the constants are %d, %d, %d and %d", impl.LegsMax, impl.InsideMax, impl.OutsideMax, impl.BookingsMax)
	}
}

func TestListsThatAreBookings(t *testing.T) {
	for _, c := range allBookings() {
		if !impl.BookingsValid(c.n, c.list) {
			t.Errorf("%s: BookingsValid does not hold for %v", c.name, c.list)
		}
	}
	for _, c := range namedManyBookings() {
		if len(c.list) > impl.BookingsMax {
			t.Errorf("%s: there are %d bookings", c.name, len(c.list))
		}
	}
}

func TestListsThatAreNoBookings(t *testing.T) {
	for _, c := range noBookings() {
		if impl.BookingsValid(c.n, c.list) {
			t.Errorf("%s: BookingsValid holds", c.name)
		}
		checkNoBooking(t, c)
		checkNoSeats(t, c)
		checkNoSeating(t, c, nil)
		checkNoSeating(t, c, make([]int, len(c.list)))
		checkNoSeating(t, c, ascending(len(c.list)))
		miles := slices.Repeat([]int{9}, min(max(c.n, 0), 16))
		checkNoTakings(t, c, miles, 4, 2)
		checkNoTakings(t, c, nil, 0, 0)
	}
}

// checkNoBooking checks what is returned if nothing can be booked, cancelled or moved.
func checkNoBooking(t *testing.T, c coachBookings) {
	t.Helper()
	for _, b := range []impl.Booking{inBooking(0, 1), outBooking(0, 1), outBooking(1, 2), inBooking(6, 7), {}} {
		if list, ok := impl.SeatsBook(c.n, c.list, b); ok || len(list) > 0 {
			t.Errorf("%s: SeatsBook of %v gives %v and %v", c.name, b, list, ok)
		}
	}
	for _, k := range append(farNumbers(), -1, 0, 1, len(c.list)-1, len(c.list)) {
		if list, ok := impl.SeatsCancel(c.n, c.list, k); ok || len(list) > 0 {
			t.Errorf("%s: SeatsCancel of %d gives %v and %v", c.name, k, list, ok)
		}
		if list, ok := impl.SeatsMove(c.n, c.list, k); ok || len(list) > 0 {
			t.Errorf("%s: SeatsMove of %d gives %v and %v", c.name, k, list, ok)
		}
	}
}

// checkNoSeats checks what is returned of the seats of a list that are no bookings.
func checkNoSeats(t *testing.T, c coachBookings) {
	t.Helper()
	for _, inside := range []bool{true, false} {
		for _, stops := range [][2]int{{0, 1}, {0, c.n}, {1, 2}, {0, 7}, {0, 0}} {
			if free := impl.SeatsFree(c.n, c.list, stops[0], stops[1], inside); free != -1 {
				t.Errorf("%s: SeatsFree for %v is %d", c.name, stops, free)
			}
		}
		if taken, ok := impl.SeatsTaken(c.n, c.list, inside); ok || len(taken) > 0 {
			t.Errorf("%s: SeatsTaken gives %v and %v", c.name, taken, ok)
		}
	}
	if seating, ok := impl.SeatingMake(c.n, c.list); ok || len(seating) > 0 {
		t.Errorf("%s: SeatingMake gives %v and %v", c.name, seating, ok)
	}
	if full := impl.SeatsFull(c.n, c.list); len(full) > 0 {
		t.Errorf("%s: SeatsFull is %v", c.name, full)
	}
	for _, list := range [][]impl.Booking{c.list, insideOnly(c.list)} {
		if impl.BookingsValid(c.n, list) {
			continue
		}
		if best, ok := impl.SeatsBest(c.n, list); ok || len(best) > 0 {
			t.Errorf("%s: SeatsBest gives %v and %v", c.name, best, ok)
		}
	}
	if ride, ok := impl.SeatsRide(c.n, c.list); ok || len(ride) > 0 {
		t.Errorf("%s: SeatsRide gives %v and %v", c.name, ride, ok)
	}
}

// checkNoSeating checks that a list is no seating.
func checkNoSeating(t *testing.T, c coachBookings, seating []int) {
	t.Helper()
	if impl.SeatingValid(c.n, c.list, seating) {
		t.Errorf("%s: SeatingValid of %v holds", c.name, seating)
	}
}

// checkNoTakings checks that there are no takings.
func checkNoTakings(t *testing.T, c coachBookings, miles []int, inside int, outside int) {
	t.Helper()
	if takings := impl.SeatsTakings(c.n, c.list, miles, inside, outside); takings != -1 {
		t.Errorf("%s: SeatsTakings with %v, %d and %d is %d", c.name, miles, inside, outside, takings)
	}
}

func TestNoBookingsAtAll(t *testing.T) {
	for n := 1; n <= impl.LegsMax; n++ {
		for _, none := range [][]impl.Booking{nil, {}} {
			c := coachBookings{"no bookings", n, none}
			if !impl.BookingsValid(n, none) || !impl.SeatingValid(n, none, nil) || !impl.SeatingValid(n, none, []int{}) {
				t.Errorf("%d legs: no bookings are no bookings, or have no seating", n)
			}
			checkNoSeating(t, c, []int{0})
			if inside, outside := impl.SeatsFree(n, none, 0, n, true), impl.SeatsFree(n, none, n-1, n, false); inside != 4 || outside != 6 {
				t.Errorf("%d legs: SeatsFree is %d and %d", n, inside, outside)
			}
			zeros := make([]int, n)
			for _, inside := range []bool{true, false} {
				if taken, ok := impl.SeatsTaken(n, none, inside); !ok || !slices.Equal(taken, zeros) {
					t.Errorf("%d legs: SeatsTaken gives %v and %v", n, taken, ok)
				}
			}
			if ride, ok := impl.SeatsRide(n, none); !ok || !slices.Equal(ride, zeros) {
				t.Errorf("%d legs: SeatsRide gives %v and %v", n, ride, ok)
			}
			if seating, ok := impl.SeatingMake(n, none); !ok || len(seating) > 0 {
				t.Errorf("%d legs: SeatingMake gives %v and %v", n, seating, ok)
			}
			if best, ok := impl.SeatsBest(n, none); !ok || len(best) > 0 {
				t.Errorf("%d legs: SeatsBest gives %v and %v", n, best, ok)
			}
			if full := impl.SeatsFull(n, none); len(full) > 0 {
				t.Errorf("%d legs: SeatsFull is %v", n, full)
			}
			if takings := impl.SeatsTakings(n, none, slices.Repeat([]int{99}, n), 100, 100); takings != 0 {
				t.Errorf("%d legs: SeatsTakings is %d", n, takings)
			}
			checkNoIndex(t, c)
		}
	}
}

// checkNoIndex checks that there are no bookings ahead of the list and behind it.
func checkNoIndex(t *testing.T, c coachBookings) {
	t.Helper()
	for _, k := range append(farNumbers(), -1, -2, len(c.list), len(c.list)+1, 16) {
		if list, ok := impl.SeatsCancel(c.n, c.list, k); ok || len(list) > 0 {
			t.Errorf("%s: SeatsCancel of %d gives %v and %v", c.name, k, list, ok)
		}
		if list, ok := impl.SeatsMove(c.n, c.list, k); ok || len(list) > 0 {
			t.Errorf("%s: SeatsMove of %d gives %v and %v", c.name, k, list, ok)
		}
	}
}

func TestIndexesAtLimits(t *testing.T) {
	list := plainBookings()
	for k, moved := range []impl.Booking{outBooking(0, 2), outBooking(1, 3), outBooking(2, 3), inBooking(0, 3)} {
		want := slices.Clone(list)
		want[k] = moved
		if got, ok := impl.SeatsMove(3, list, k); !ok || !slices.Equal(got, want) {
			t.Errorf("SeatsMove of %d gives %v and %v", k, got, ok)
		}
		if got, ok := impl.SeatsCancel(3, list, k); !ok || !slices.Equal(got, slices.Delete(want, k, k+1)) {
			t.Errorf("SeatsCancel of %d gives %v and %v", k, got, ok)
		}
	}
	for _, c := range namedBookings() {
		checkNoIndex(t, c)
	}
	if got, ok := impl.SeatsCancel(1, []impl.Booking{inBooking(0, 1)}, 0); !ok || len(got) > 0 {
		t.Errorf("SeatsCancel of the only booking gives %v and %v", got, ok)
	}
}

// TestMovesOutOfTooManySeats has lists that would be bookings, but only when one of them is moved or cancelled.
func TestMovesOutOfTooManySeats(t *testing.T) {
	for _, list := range [][]impl.Booking{many(5, inBooking(0, 1)), many(7, outBooking(0, 1))} {
		for k := range list {
			if got, ok := impl.SeatsMove(1, list, k); ok || len(got) > 0 {
				t.Errorf("SeatsMove of %d in %v gives %v and %v", k, list, got, ok)
			}
			if got, ok := impl.SeatsCancel(1, list, k); ok || len(got) > 0 {
				t.Errorf("SeatsCancel of %d in %v gives %v and %v", k, list, got, ok)
			}
		}
	}
}

func TestStopsOfSeatsAtLimits(t *testing.T) {
	for _, n := range []int{1, 2, 3, 7} {
		for _, list := range [][]impl.Booking{nil, {inBooking(0, 1)}, fullLegs(0, n)} {
			for _, b := range noSingleBookings(n) {
				if free := impl.SeatsFree(n, list, b.From, b.To, b.Inside); free != -1 {
					t.Errorf("SeatsFree of %v for %v of %d legs is %d", list, b, n, free)
				}
				if got, ok := impl.SeatsBook(n, list, b); ok || len(got) > 0 {
					t.Errorf("SeatsBook of %v to %v of %d legs gives %v and %v", b, list, n, got, ok)
				}
			}
		}
		for from := -2; from <= n+2; from++ {
			for to := -2; to <= n+2; to++ {
				fits := 0 <= from && from < to && to <= n
				if free := impl.SeatsFree(n, nil, from, to, true); free != 4 && fits || free != -1 && !fits {
					t.Errorf("SeatsFree from %d to %d of %d is %d", from, to, n, free)
				}
				b := outBooking(from, to)
				if list, ok := impl.SeatsBook(n, nil, b); ok != fits || fits && !slices.Equal(list, []impl.Booking{b}) {
					t.Errorf("SeatsBook from %d to %d of %d gives %v and %v", from, to, n, list, ok)
				}
			}
		}
	}
}

func TestFreeSeats(t *testing.T) {
	list := slices.Concat(plainBookings(), []impl.Booking{outBooking(0, 1), outBooking(0, 1), inBooking(2, 3)})
	for _, c := range []struct {
		from, to        int
		inside, outside int
	}{{0, 1, 3, 3}, {1, 2, 2, 5}, {2, 3, 1, 5}, {0, 2, 2, 3}, {1, 3, 1, 5}, {0, 3, 1, 3}} {
		if free := impl.SeatsFree(3, list, c.from, c.to, true); free != c.inside {
			t.Errorf("SeatsFree inside from %d to %d is %d", c.from, c.to, free)
		}
		if free := impl.SeatsFree(3, list, c.from, c.to, false); free != c.outside {
			t.Errorf("SeatsFree outside from %d to %d is %d", c.from, c.to, free)
		}
	}
}

func TestTakenSeats(t *testing.T) {
	for _, c := range []struct {
		n                     int
		list                  []impl.Booking
		inside, outside, full []int
	}{
		{3, plainBookings(), []int{1, 2, 2}, []int{1, 1, 1}, nil},
		{1, fullLegs(0, 1), []int{4}, []int{6}, []int{0}},
		{7, fullLegs(0, 7), []int{4, 4, 4, 4, 4, 4, 4}, []int{6, 6, 6, 6, 6, 6, 6}, []int{0, 1, 2, 3, 4, 5, 6}},
		{3, sixteenBookings(), []int{4, 4, 4}, []int{6, 6, 2}, []int{0, 1}},
		{4, fullLegs(0, 1), []int{4, 0, 0, 0}, []int{6, 0, 0, 0}, []int{0}},
		{4, fullLegs(3, 4), []int{0, 0, 0, 4}, []int{0, 0, 0, 6}, []int{3}},
		{4, slices.Concat(many(2, inBooking(0, 1)), many(2, inBooking(0, 4)), many(2, inBooking(2, 4)), many(6, outBooking(0, 4))), []int{4, 2, 4, 4}, []int{6, 6, 6, 6}, []int{0, 2, 3}},
		{2, slices.Concat(many(4, inBooking(0, 1)), many(6, outBooking(1, 2))), []int{4, 0}, []int{0, 6}, nil},
		{2, many(4, inBooking(0, 2)), []int{4, 4}, []int{0, 0}, nil},
		{2, many(6, outBooking(0, 2)), []int{0, 0}, []int{6, 6}, nil},
		{2, fullLegs(0, 2)[1:], []int{3, 3}, []int{6, 6}, nil},
		{2, fullLegs(0, 2)[:9], []int{4, 4}, []int{5, 5}, nil},
	} {
		if taken, ok := impl.SeatsTaken(c.n, c.list, true); !ok || !slices.Equal(taken, c.inside) {
			t.Errorf("SeatsTaken inside of %v gives %v and %v", c.list, taken, ok)
		}
		if taken, ok := impl.SeatsTaken(c.n, c.list, false); !ok || !slices.Equal(taken, c.outside) {
			t.Errorf("SeatsTaken outside of %v gives %v and %v", c.list, taken, ok)
		}
		people := []int{}
		for leg := range c.n {
			people = append(people, c.inside[leg]+c.outside[leg])
		}
		if ride, ok := impl.SeatsRide(c.n, c.list); !ok || !slices.Equal(ride, people) {
			t.Errorf("SeatsRide of %v gives %v and %v", c.list, ride, ok)
		}
		if full := impl.SeatsFull(c.n, c.list); !slices.Equal(full, c.full) {
			t.Errorf("SeatsFull of %v is %v", c.list, full)
		}
	}
}

func TestMadeSeatings(t *testing.T) {
	for _, c := range []struct {
		name string
		n    int
		list []impl.Booking
		want []int
	}{
		{"plain", 3, plainBookings(), []int{0, 1, 0, 0}},
		{"behind each other", 3, []impl.Booking{inBooking(0, 1), inBooking(1, 2), inBooking(2, 3)}, []int{0, 0, 0}},
		{"behind each other, the last one first", 3, []impl.Booking{inBooking(2, 3), inBooking(1, 2), inBooking(0, 1)}, []int{0, 0, 0}},
		{"same From, in the order of the list", 4, []impl.Booking{inBooking(1, 4), inBooking(1, 2), inBooking(1, 3)}, []int{0, 1, 2}},
		{"same From, then one more", 4, []impl.Booking{inBooking(2, 4), inBooking(0, 4), inBooking(0, 2), inBooking(0, 1)}, []int{1, 0, 1, 2}},
		{"same To", 4, []impl.Booking{outBooking(3, 4), outBooking(2, 4), outBooking(1, 4), outBooking(0, 4)}, []int{3, 2, 1, 0}},
		{"From falls, the least seat is free again", 5, []impl.Booking{outBooking(3, 5), outBooking(1, 4), outBooking(0, 3)}, []int{0, 1, 0}},
		{"both kinds have their own numbers", 2, []impl.Booking{inBooking(0, 2), outBooking(0, 2), inBooking(0, 2), outBooking(0, 2)}, []int{0, 0, 1, 1}},
		{"the least of those that come free", 7, []impl.Booking{inBooking(0, 5), inBooking(0, 2), inBooking(0, 4), inBooking(0, 3), inBooking(5, 7), inBooking(4, 7), inBooking(3, 6), inBooking(2, 3)}, []int{0, 1, 2, 3, 0, 2, 1, 1}},
		{"all seats, 1 leg", 1, fullLegs(0, 1), []int{0, 1, 2, 3, 0, 1, 2, 3, 4, 5}},
		{"all seats, all legs", 7, fullLegs(0, 7), []int{0, 1, 2, 3, 0, 1, 2, 3, 4, 5}},
		{"BookingsMax", 3, sixteenBookings(), []int{0, 1, 2, 3, 0, 1, 2, 3, 4, 5, 0, 1, 2, 3, 0, 1}},
	} {
		if seating, ok := impl.SeatingMake(c.n, c.list); !ok || !slices.Equal(seating, c.want) {
			t.Errorf("%s: SeatingMake gives %v and %v", c.name, seating, ok)
		}
	}
}

func TestSeatings(t *testing.T) {
	plain := coachBookings{"plain", 3, plainBookings()}
	for _, seating := range [][]int{{0, 1, 0, 0}, {1, 0, 1, 0}, {0, 1, 2, 0}, {3, 2, 3, 5}, {3, 2, 0, 2}, {0, 3, 0, 3}} {
		if !impl.SeatingValid(plain.n, plain.list, seating) {
			t.Errorf("SeatingValid of %v does not hold", seating)
		}
	}
	for _, seating := range [][]int{nil, {}, {0}, {0, 1, 0}, {0, 1, 0, 0, 0}, {0, 1, 0, 0, 1, 2}, {0, 0, 0, 0}, {0, 0, 1, 0}, {0, 1, 1, 0}, {3, 3, 2, 5}, {-1, 1, 0, 0}, {0, -1, 0, 0}, {0, 1, -1, 0}, {0, 1, 0, -1}, {4, 1, 0, 0}, {0, 4, 0, 0}, {0, 1, 4, 0}, {0, 1, 5, 0}, {0, 1, 0, 6}, {0, 1, 0, 7}} {
		checkNoSeating(t, plain, seating)
	}
	for _, far := range farNumbers() {
		checkNoSeating(t, plain, []int{far, 1, 0, 0})
		checkNoSeating(t, plain, []int{0, 1, 0, far})
	}
	for _, c := range namedBookings() {
		seating, _ := impl.SeatingMake(c.n, c.list)
		checkNoSeating(t, c, append(slices.Clone(seating), 0))
		checkNoSeating(t, c, append(slices.Clone(seating), 5))
		if len(seating) > 0 {
			checkNoSeating(t, c, seating[1:])
			checkNoSeating(t, c, seating[:len(seating)-1])
		}
	}
}

func TestSeatingsOnNextLegs(t *testing.T) {
	for _, inside := range []bool{true, false} {
		last := seatsOfKind(inside) - 1
		for _, c := range []struct {
			a, b [2]int
			fits bool
		}{{[2]int{0, 3}, [2]int{3, 7}, true}, {[2]int{3, 7}, [2]int{0, 3}, true}, {[2]int{0, 3}, [2]int{2, 7}, false}, {[2]int{2, 7}, [2]int{0, 3}, false}, {[2]int{0, 7}, [2]int{6, 7}, false}, {[2]int{0, 7}, [2]int{0, 1}, false}, {[2]int{0, 7}, [2]int{3, 4}, false}, {[2]int{2, 3}, [2]int{2, 3}, false}, {[2]int{0, 1}, [2]int{6, 7}, true}} {
			list := []impl.Booking{{From: c.a[0], To: c.a[1], Inside: inside}, {From: c.b[0], To: c.b[1], Inside: inside}}
			for _, number := range []int{0, 1, last} {
				if got := impl.SeatingValid(7, list, []int{number, number}); got != c.fits {
					t.Errorf("SeatingValid of %v on the seat %d: %v", list, number, got)
				}
			}
			// One of both has a seat of its own, or of the other kind.
			if !impl.SeatingValid(7, list, []int{0, last}) {
				t.Errorf("SeatingValid of %v on two seats does not hold", list)
			}
			list[0].Inside = !inside
			if !impl.SeatingValid(7, list, []int{0, 0}) {
				t.Errorf("SeatingValid of %v on seats of both kinds does not hold", list)
			}
		}
	}
}

func TestTakings(t *testing.T) {
	for _, c := range []struct {
		n               int
		list            []impl.Booking
		miles           []int
		inside, outside int
		want            int
	}{
		{3, plainBookings(), []int{5, 6, 7}, 4, 2, 44 + 52 + 28 + 36},
		{3, plainBookings(), []int{5, 6, 7}, 1, 0, 11 + 13 + 7},
		{3, plainBookings(), []int{5, 6, 7}, 0, 1, 18},
		{3, plainBookings(), []int{5, 6, 7}, 0, 0, 0},
		{3, plainBookings(), []int{5, 6, 7}, 100, 100, 4900},
		{3, plainBookings(), []int{1, 1, 1}, 1, 1, 8},
		{3, plainBookings(), []int{99, 99, 99}, 1, 1, 792},
		{1, []impl.Booking{inBooking(0, 1)}, []int{1}, 1, 100, 1},
		{1, []impl.Booking{outBooking(0, 1)}, []int{99}, 1, 100, 9900},
		{7, fullLegs(0, 7), []int{99, 99, 99, 99, 99, 99, 99}, 100, 100, 693000},
		{7, fullLegs(0, 7), []int{1, 2, 3, 4, 5, 6, 7}, 3, 0, 336},
		{7, []impl.Booking{inBooking(0, 1), outBooking(6, 7)}, []int{1, 50, 50, 50, 50, 50, 99}, 7, 3, 7 + 297},
	} {
		if takings := impl.SeatsTakings(c.n, c.list, c.miles, c.inside, c.outside); takings != c.want {
			t.Errorf("SeatsTakings of %v with %v, %d and %d is %d, want %d", c.list, c.miles, c.inside, c.outside, takings, c.want)
		}
	}
}

func TestTakingsThatFail(t *testing.T) {
	for _, c := range []coachBookings{{"plain", 3, plainBookings()}, {"nil", 3, nil}, {"last leg", 3, []impl.Booking{inBooking(2, 3)}}} {
		for _, miles := range [][]int{nil, {}, {5}, {5, 6}, {5, 6, 7, 8}, {5, 6, 7, 8, 9, 10, 11}, {0, 6, 7}, {5, 0, 7}, {5, 6, 0}, {-1, 6, 7}, {5, 6, -7}, {100, 6, 7}, {5, 100, 7}, {5, 6, 100}, {5, 6, 101}} {
			checkNoTakings(t, c, miles, 4, 2)
			checkNoTakings(t, c, miles, 0, 0)
		}
		for _, far := range farNumbers() {
			checkNoTakings(t, c, []int{far, 6, 7}, 4, 2)
			checkNoTakings(t, c, []int{5, 6, far}, 4, 2)
		}
		for _, fare := range append(farNumbers(), -1, -2, 101, 102, 1000) {
			checkNoTakings(t, c, []int{5, 6, 7}, fare, 2)
			checkNoTakings(t, c, []int{5, 6, 7}, 4, fare)
			checkNoTakings(t, c, []int{5, 6, 7}, fare, fare)
		}
	}
}

func TestBestBookings(t *testing.T) {
	for _, c := range []struct {
		name string
		n    int
		list []impl.Booking
		want []int
	}{
		{"one", 1, []impl.Booking{inBooking(0, 1)}, []int{0}},
		{"one, all legs", 7, []impl.Booking{inBooking(0, 7)}, []int{0}},
		{"plain", 3, plainBookings()[:3], []int{0, 2}},
		{"several least To, then two alike", 3, tiedBookings(), []int{1, 3}},
		{"least To twice, the shorter one first", 2, []impl.Booking{inBooking(1, 2), inBooking(0, 2)}, []int{0}},
		{"least To twice, the longer one first", 2, []impl.Booking{inBooking(0, 2), inBooking(1, 2)}, []int{0}},
		{"least To three times, behind a long one", 5, []impl.Booking{inBooking(0, 5), inBooking(2, 3), inBooking(0, 3), inBooking(1, 3), inBooking(3, 5)}, []int{1, 4}},
		{"least To twice behind the first one", 6, []impl.Booking{inBooking(0, 2), inBooking(3, 4), inBooking(2, 4), inBooking(4, 6), inBooking(5, 6)}, []int{0, 1, 3}},
		{"least To twice, but one begins too soon", 6, []impl.Booking{inBooking(0, 2), inBooking(1, 4), inBooking(2, 4)}, []int{0, 2}},
		{"four alike", 2, many(4, inBooking(0, 2)), []int{0}},
		{"behind each other, the last one first", 3, []impl.Booking{inBooking(2, 3), inBooking(1, 2), inBooking(0, 1)}, []int{0, 1, 2}},
		{"behind each other, mixed", 4, []impl.Booking{inBooking(2, 3), inBooking(0, 1), inBooking(3, 4), inBooking(1, 2)}, []int{0, 1, 2, 3}},
		{"a long one or short ones", 7, []impl.Booking{inBooking(0, 7), inBooking(0, 1), inBooking(2, 3), inBooking(5, 6)}, []int{1, 2, 3}},
		{"a short one between two long ones", 7, []impl.Booking{inBooking(0, 4), inBooking(3, 5), inBooking(4, 7)}, []int{0, 2}},
		{"legs between that nobody takes", 7, []impl.Booking{inBooking(1, 2), inBooking(6, 7)}, []int{0, 1}},
		{"BookingsMax", 4, slices.Concat(many(4, inBooking(3, 4)), many(4, inBooking(1, 2)), many(4, inBooking(2, 3)), many(4, inBooking(0, 1))), []int{0, 4, 8, 12}},
	} {
		if best, ok := impl.SeatsBest(c.n, c.list); !ok || !slices.Equal(best, c.want) {
			t.Errorf("%s: SeatsBest gives %v and %v, want %v", c.name, best, ok, c.want)
		}
	}
}

func TestBestWithOutsideBookings(t *testing.T) {
	inside := []impl.Booking{inBooking(0, 1), inBooking(2, 5), inBooking(5, 7)}
	for k := range len(inside) + 1 {
		list := slices.Insert(slices.Clone(inside), k, outBooking(1, 2))
		if best, ok := impl.SeatsBest(7, list); ok || len(best) > 0 {
			t.Errorf("SeatsBest of %v gives %v and %v", list, best, ok)
		}
	}
	for _, list := range [][]impl.Booking{{outBooking(0, 1)}, many(6, outBooking(0, 7)), fullLegs(0, 7)} {
		if best, ok := impl.SeatsBest(7, list); ok || len(best) > 0 {
			t.Errorf("SeatsBest of %v gives %v and %v", list, best, ok)
		}
	}
}
