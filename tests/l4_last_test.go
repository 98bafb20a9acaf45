package tests

import (
	"fmt"
	"slices"
	"testing"

	"loop.example/mailcoaches/impl"
)

// lastSeat is a coach with one free seat of a kind on each leg from one stop to another one, and with all seats of this kind free elsewhere.
type lastSeat struct {
	name   string
	n      int
	list   []impl.Booking
	seat   impl.Booking
	others bool // whether the other kind has free seats on these legs
}

// lastSeats have the last seat on one leg, on some legs and on all legs, at the first leg, between and at the last leg; the other kind has all seats free there, or none.
func lastSeats() []lastSeat {
	cases := []lastSeat{}
	for _, place := range []struct{ n, from, to int }{{1, 0, 1}, {2, 0, 1}, {2, 1, 2}, {2, 0, 2}, {3, 0, 1}, {3, 1, 2}, {3, 2, 3}, {3, 1, 3}, {3, 0, 3}, {7, 0, 1}, {7, 3, 4}, {7, 6, 7}, {7, 0, 3}, {7, 2, 5}, {7, 4, 7}, {7, 0, 7}} {
		for _, inside := range []bool{true, false} {
			seat := impl.Booking{From: place.from, To: place.to, Inside: inside}
			others := impl.Booking{From: place.from, To: place.to, Inside: !inside}
			list := many(seatsOfKind(inside)-1, seat)
			name := fmt.Sprintf("inside %v, from %d to %d of %d", inside, place.from, place.to, place.n)
			cases = append(cases,
				lastSeat{name, place.n, list, seat, true},
				lastSeat{name + ", no other seats", place.n, slices.Concat(many(seatsOfKind(!inside), others), list), seat, false},
				lastSeat{name + ", booked leg by leg", place.n, legByLeg(list), seat, true},
			)
		}
	}
	// No list has room for so many bookings of a leg each.
	return slices.DeleteFunc(cases, func(c lastSeat) bool { return len(c.list) >= impl.BookingsMax-1 })
}

// legByLeg has a booking for each leg of each booking.
func legByLeg(list []impl.Booking) []impl.Booking {
	legs := []impl.Booking{}
	for _, b := range list {
		for leg := b.From; leg < b.To; leg++ {
			legs = append(legs, impl.Booking{From: leg, To: leg + 1, Inside: b.Inside})
		}
	}
	return legs
}

// eachLastSeat does a test with each last seat, and with the bookings in which it is booked.
func eachLastSeat(t *testing.T, test func(t *testing.T, c lastSeat, full []impl.Booking)) {
	t.Helper()
	for _, c := range lastSeats() {
		full, ok := impl.SeatsBook(c.n, c.list, c.seat)
		if !ok || !slices.Equal(full, append(slices.Clone(c.list), c.seat)) {
			t.Fatalf("%s: SeatsBook of the last seat gives %v and %v", c.name, full, ok)
		}
		test(t, c, full)
		if t.Failed() {
			t.Fatalf("last seat %q: %d legs, %v", c.name, c.n, c.list)
		}
	}
}

// TestLastSeatIsFree counts the free seats ahead of the booking of the last one and behind it.
func TestLastSeatIsFree(t *testing.T) {
	eachLastSeat(t, func(t *testing.T, c lastSeat, full []impl.Booking) {
		for _, b := range bookingsOf(c.n) {
			if b.Inside != c.seat.Inside {
				continue
			}
			before, after := seatsOfKind(b.Inside), seatsOfKind(b.Inside)
			if !modelApartLegs(b, c.seat) {
				before, after = 1, 0
			}
			if free := impl.SeatsFree(c.n, c.list, b.From, b.To, b.Inside); free != before {
				t.Errorf("SeatsFree for %v is %d, want %d", b, free, before)
			}
			if free := impl.SeatsFree(c.n, full, b.From, b.To, b.Inside); free != after {
				t.Errorf("SeatsFree for %v is %d when the last seat is booked, want %d", b, free, after)
			}
		}
	})
}

// TestOneMoreThanTheLastSeat books on the same legs, on some of them, on those next to them, and over both.
func TestOneMoreThanTheLastSeat(t *testing.T) {
	eachLastSeat(t, func(t *testing.T, c lastSeat, full []impl.Booking) {
		for _, b := range bookingsOf(c.n) {
			if b.Inside != c.seat.Inside {
				continue
			}
			fits := modelApartLegs(b, c.seat)
			more, ok := impl.SeatsBook(c.n, full, b)
			if ok != fits || impl.BookingsValid(c.n, append(slices.Clone(full), b)) != fits {
				t.Errorf("SeatsBook of %v behind the last seat gives %v and %v", b, more, ok)
			}
			if !ok && len(more) > 0 {
				t.Errorf("SeatsBook of %v behind the last seat fails with %v", b, more)
			}
		}
	})
}

// TestLastSeatOfSeating checks who gets the last seat, and that nobody else can sit there.
func TestLastSeatOfSeating(t *testing.T) {
	eachLastSeat(t, func(t *testing.T, c lastSeat, full []impl.Booking) {
		seating, ok := impl.SeatingMake(c.n, full)
		last := len(full) - 1
		if !ok || !impl.SeatingValid(c.n, full, seating) || !slices.Equal(seating, modelMakeSeating(c.n, full)) {
			t.Fatalf("SeatingMake gives %v and %v", seating, ok)
		}
		for number := range 7 {
			changed := slices.Clone(seating)
			changed[last] = number
			if got := impl.SeatingValid(c.n, full, changed); got != (number == seating[last]) {
				t.Errorf("SeatingValid of %v: %v, but SeatingMake gives %v", changed, got, seating)
			}
		}
	})
}

// TestLastSeatCancelled cancels the last booking, and then any other one of its kind, and books again.
func TestLastSeatCancelled(t *testing.T) {
	eachLastSeat(t, func(t *testing.T, c lastSeat, full []impl.Booking) {
		if list, ok := impl.SeatsCancel(c.n, full, len(full)-1); !ok || !slices.Equal(list, c.list) {
			t.Errorf("SeatsCancel of the last seat gives %v and %v", list, ok)
		}
		for k, b := range full {
			list, ok := impl.SeatsCancel(c.n, full, k)
			if free := impl.SeatsFree(c.n, list, b.From, b.To, b.Inside); !ok || free != 1 {
				t.Errorf("SeatsCancel of %d gives %v and %v, and SeatsFree is %d", k, list, ok, free)
			}
			again, ok := impl.SeatsBook(c.n, list, b)
			if !ok || !slices.Equal(again, append(slices.Clone(list), b)) {
				t.Errorf("SeatsBook of the seat %d that was cancelled gives %v and %v", k, again, ok)
			}
			if more, ok := impl.SeatsBook(c.n, again, b); ok || len(more) > 0 {
				t.Errorf("SeatsBook of one more seat like %d gives %v and %v", k, more, ok)
			}
		}
	})
}

// TestLastSeatMoved moves the last seat from its kind, which is full, to the other one, which is empty or full as well.
func TestLastSeatMoved(t *testing.T) {
	eachLastSeat(t, func(t *testing.T, c lastSeat, full []impl.Booking) {
		last := len(full) - 1
		moved, ok := impl.SeatsMove(c.n, full, last)
		if ok != c.others {
			t.Fatalf("SeatsMove of the last seat gives %v and %v", moved, ok)
		}
		if !ok {
			if len(moved) > 0 {
				t.Errorf("SeatsMove of the last seat fails with %v", moved)
			}
			return
		}
		other := impl.Booking{From: c.seat.From, To: c.seat.To, Inside: !c.seat.Inside}
		if !slices.Equal(moved, append(slices.Clone(c.list), other)) {
			t.Errorf("SeatsMove of the last seat gives %v", moved)
		}
		if free := impl.SeatsFree(c.n, moved, c.seat.From, c.seat.To, c.seat.Inside); free != 1 {
			t.Errorf("SeatsFree is %d when the last seat was moved", free)
		}
		if free, want := impl.SeatsFree(c.n, moved, c.seat.From, c.seat.To, other.Inside), seatsOfKind(other.Inside)-1; free != want {
			t.Errorf("SeatsFree of the other kind is %d when the last seat was moved, want %d", free, want)
		}
		if back, ok := impl.SeatsMove(c.n, moved, last); !ok || !slices.Equal(back, full) {
			t.Errorf("SeatsMove back to the last seat gives %v and %v", back, ok)
		}
	})
}

// TestMovedToTheLastSeat moves a seat of the other kind to the last seat, also over more legs, and tries it when this is taken.
func TestMovedToTheLastSeat(t *testing.T) {
	eachLastSeat(t, func(t *testing.T, c lastSeat, full []impl.Booking) {
		for _, b := range bookingsOf(c.n) {
			if b.Inside == c.seat.Inside || !c.others || len(full) >= impl.BookingsMax {
				continue
			}
			list := append(slices.Clone(c.list), b)
			want := append(slices.Clone(c.list), impl.Booking{From: b.From, To: b.To, Inside: !b.Inside})
			if moved, ok := impl.SeatsMove(c.n, list, len(c.list)); !ok || !slices.Equal(moved, want) {
				t.Errorf("SeatsMove of %v to the last seat gives %v and %v", b, moved, ok)
			}
			list = append(slices.Clone(full), b)
			if moved, ok := impl.SeatsMove(c.n, list, len(full)); ok != modelApartLegs(b, c.seat) || !ok && len(moved) > 0 {
				t.Errorf("SeatsMove of %v when the last seat is taken gives %v and %v", b, moved, ok)
			}
		}
	})
}

// TestLastSeatOfTheCoach checks that legs are full just when the last seat of both kinds is booked.
func TestLastSeatOfTheCoach(t *testing.T) {
	eachLastSeat(t, func(t *testing.T, c lastSeat, full []impl.Booking) {
		if legs := impl.SeatsFull(c.n, c.list); len(legs) > 0 {
			t.Errorf("SeatsFull is %v with a free seat", legs)
		}
		want := []int{}
		for leg := c.seat.From; leg < c.seat.To && !c.others; leg++ {
			want = append(want, leg)
		}
		if legs := impl.SeatsFull(c.n, full); !slices.Equal(legs, want) {
			t.Errorf("SeatsFull is %v, want %v", legs, want)
		}
	})
}

// TestLastRoomOfList checks that seats are free that the list has no room for.
func TestLastRoomOfList(t *testing.T) {
	sixteen := slices.Concat(many(4, inBooking(0, 1)), many(6, outBooking(0, 1)), many(6, outBooking(1, 2)))
	for _, b := range []impl.Booking{inBooking(1, 2), inBooking(2, 7), outBooking(2, 3), outBooking(2, 7)} {
		if free, want := impl.SeatsFree(7, sixteen, b.From, b.To, b.Inside), seatsOfKind(b.Inside); free != want {
			t.Errorf("SeatsFree for %v is %d, want %d", b, free, want)
		}
		if list, ok := impl.SeatsBook(7, sixteen, b); ok || len(list) > 0 {
			t.Errorf("SeatsBook of %v to BookingsMax bookings gives %v and %v", b, list, ok)
		}
		fifteen, ok := impl.SeatsCancel(7, sixteen, 15)
		if !ok || len(fifteen) != 15 {
			t.Fatalf("SeatsCancel gives %v and %v", fifteen, ok)
		}
		if list, ok := impl.SeatsBook(7, fifteen, b); !ok || len(list) != 16 {
			t.Errorf("SeatsBook of %v to BookingsMax less 1 bookings gives %v and %v", b, list, ok)
		}
	}
}
