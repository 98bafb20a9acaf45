package tests

import (
	"slices"
	"testing"

	"loop.example/mailcoaches/impl"
)

// bookingMark stands where no function may write.
var bookingMark = impl.Booking{From: -7, To: -7, Inside: true}

// callAllSeats calls all functions of the chapter with bookings, a seating and miles, overwrites all results, and calls a check after each.
func callAllSeats(n int, list []impl.Booking, seating []int, miles []int, k int, check func(name string)) {
	for _, b := range []impl.Booking{inBooking(0, 1), outBooking(0, n), {From: k, To: k + 1}} {
		booked, _ := impl.SeatsBook(n, list, b)
		overwrite(booked, bookingMark)
		check("SeatsBook")
		impl.SeatsFree(n, list, b.From, b.To, b.Inside)
		check("SeatsFree")
	}
	cancelled, _ := impl.SeatsCancel(n, list, k)
	overwrite(cancelled, bookingMark)
	check("SeatsCancel")
	moved, _ := impl.SeatsMove(n, list, k)
	overwrite(moved, bookingMark)
	check("SeatsMove")
	for _, inside := range []bool{true, false} {
		taken, _ := impl.SeatsTaken(n, list, inside)
		overwrite(taken, -7)
		check("SeatsTaken")
	}
	made, _ := impl.SeatingMake(n, list)
	overwrite(made, -7)
	check("SeatingMake")
	overwrite(impl.SeatsFull(n, list), -7)
	check("SeatsFull")
	best, _ := impl.SeatsBest(n, list)
	overwrite(best, -7)
	check("SeatsBest")
	ride, _ := impl.SeatsRide(n, list)
	overwrite(ride, -7)
	check("SeatsRide")
	impl.BookingsValid(n, list)
	impl.SeatingValid(n, list, seating)
	impl.SeatsTakings(n, list, miles, 4, 2)
	check("one of the functions without a list as its result")
}

// TestArgumentsOfSeats checks that no argument is written into, and that no result shares memory with an argument.
func TestArgumentsOfSeats(t *testing.T) {
	lists := slices.Concat(namedBookings(), mixedBookings(100), noBookings())
	for _, c := range slices.Concat(namedBookings(), mixedBookings(100)) {
		lists = append(lists, coachBookings{c.name, c.n, insideOnly(c.list)})
	}
	for _, c := range lists {
		made, _ := impl.SeatingMake(c.n, c.list)
		for _, seats := range [][]int{made, make([]int, len(c.list)), {0, 1}} {
			list, listMemory := roomy(c.list, outBooking(0, 1))
			seating, seatingMemory := roomy(seats, 70)
			miles, milesMemory := roomy([]int{9, 8, 7, 6, 5, 4, 3}[:min(max(c.n, 0), 7)], 70)
			listBefore, seatingBefore, milesBefore := slices.Clone(listMemory), slices.Clone(seatingMemory), slices.Clone(milesMemory)
			check := func(name string) {
				if !slices.Equal(listMemory, listBefore) || !slices.Equal(seatingMemory, seatingBefore) || !slices.Equal(milesMemory, milesBefore) {
					t.Fatalf("%s: after %s the bookings are %v, the seating %v and the miles %v", c.name, name, listMemory, seatingMemory, milesMemory)
				}
			}
			for _, k := range []int{0, 1, len(c.list) - 1, len(c.list)} {
				callAllSeats(c.n, list, seating, miles, k, check)
			}
		}
	}
}

// TestResultsOfSeats checks that nothing is kept from call to call.
func TestResultsOfSeats(t *testing.T) {
	eachBookings(t, func(t *testing.T, c coachBookings) {
		inside := insideOnly(c.list)
		checkAgain(t, "SeatsTaken", -7, func() ([]int, bool) { return impl.SeatsTaken(c.n, c.list, true) })
		checkAgain(t, "SeatingMake", -7, func() ([]int, bool) { return impl.SeatingMake(c.n, c.list) })
		checkAgain(t, "SeatsFull", -7, func() ([]int, bool) { return impl.SeatsFull(c.n, c.list), true })
		checkAgain(t, "SeatsBest", -7, func() ([]int, bool) { return impl.SeatsBest(c.n, inside) })
		checkAgain(t, "SeatsRide", -7, func() ([]int, bool) { return impl.SeatsRide(c.n, c.list) })
		if len(c.list) > 0 {
			checkAgain(t, "SeatsCancel", bookingMark, func() ([]impl.Booking, bool) { return impl.SeatsCancel(c.n, c.list, 0) })
		}
		if modelValid(c.n, append(slices.Clone(c.list), inBooking(0, 1))) {
			checkAgain(t, "SeatsBook", bookingMark, func() ([]impl.Booking, bool) { return impl.SeatsBook(c.n, c.list, inBooking(0, 1)) })
		}
	})
	list := plainBookings()
	for k := range list {
		checkAgain(t, "SeatsMove", bookingMark, func() ([]impl.Booking, bool) { return impl.SeatsMove(3, list, k) })
	}
}
