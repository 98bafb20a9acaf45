package tests

import (
	"slices"
	"testing"

	"loop.example/mailcoaches/impl"
)

// The model goes leg by leg, holds each two bookings against each other, and tries all choices of bookings.

// modelTaken counts the bookings of a kind on each leg.
func modelTaken(n int, list []impl.Booking, inside bool) []int {
	taken := make([]int, n)
	for _, b := range list {
		for leg := b.From; leg < b.To && b.Inside == inside; leg++ {
			taken[leg]++
		}
	}
	return taken
}

// modelValid reports whether a list are bookings.
func modelValid(n int, list []impl.Booking) bool {
	if n < 1 || n > 7 || len(list) > 16 {
		return false
	}
	for _, b := range list {
		if b.From < 0 || b.To > n || b.From >= b.To {
			return false
		}
	}
	return slices.Max(modelTaken(n, list, true)) <= 4 && slices.Max(modelTaken(n, list, false)) <= 6
}

// modelApartLegs reports whether two bookings have no leg in common.
func modelApartLegs(a impl.Booking, b impl.Booking) bool {
	return a.To <= b.From || b.To <= a.From
}

// modelClash reports whether a booking has the seat of another one on one of its legs; who has the seat -1 has none yet.
func modelClash(list []impl.Booking, seating []int, k int) bool {
	for i, b := range list {
		if i != k && seating[i] == seating[k] && b.Inside == list[k].Inside && !modelApartLegs(b, list[k]) {
			return true
		}
	}
	return false
}

// modelSeating reports whether a list is a seating of bookings.
func modelSeating(list []impl.Booking, seating []int) bool {
	if len(seating) != len(list) {
		return false
	}
	for i, number := range seating {
		if number < 0 || number >= seatsOfKind(list[i].Inside) || modelClash(list, seating, i) {
			return false
		}
	}
	return true
}

// modelOrder returns the indexes of those who get in at each stop, stop by stop.
func modelOrder(n int, list []impl.Booking) []int {
	order := []int{}
	for stop := range n {
		for i, b := range list {
			if b.From == stop {
				order = append(order, i)
			}
		}
	}
	return order
}

// modelMakeSeating returns the seating in which each one who gets in takes the least seat that clashes with none.
func modelMakeSeating(n int, list []impl.Booking) []int {
	seating := slices.Repeat([]int{-1}, len(list))
	for _, i := range modelOrder(n, list) {
		seating[i] = 0
		for modelClash(list, seating, i) {
			seating[i]++
		}
	}
	return seating
}

// modelBest goes through all bookings by their To, then by their index, and takes what begins at or behind the last To.
func modelBest(n int, list []impl.Booking) []int {
	best, last := []int{}, 0
	for to := range n + 1 {
		for i, b := range list {
			if b.To == to && b.From >= last {
				best, last = append(best, i), to
			}
		}
	}
	slices.Sort(best)
	return best
}

// modelMost returns how many bookings without a leg in common there are at most: all choices are tried.
func modelMost(taken []impl.Booking, others []impl.Booking) int {
	most := len(taken)
	for i, b := range others {
		if !slices.ContainsFunc(taken, func(a impl.Booking) bool { return !modelApartLegs(a, b) }) {
			most = max(most, modelMost(append(taken[:len(taken):len(taken)], b), others[i+1:]))
		}
	}
	return most
}

// modelTakings pays mile by mile.
func modelTakings(list []impl.Booking, miles []int, inside int, outside int) int {
	takings := 0
	for _, b := range list {
		for leg := b.From; leg < b.To; leg++ {
			for range miles[leg] {
				if b.Inside {
					takings += inside
				} else {
					takings += outside
				}
			}
		}
	}
	return takings
}

// modelRide lets people get in and out at each stop.
func modelRide(n int, list []impl.Booking) []int {
	people, ride := 0, []int{}
	for stop := range n {
		for _, b := range list {
			if b.From == stop {
				people++
			}
			if b.To == stop {
				people--
			}
		}
		ride = append(ride, people)
	}
	return ride
}

// insideOnly returns the inside bookings of a list.
func insideOnly(list []impl.Booking) []impl.Booking {
	return slices.DeleteFunc(slices.Clone(list), func(b impl.Booking) bool { return !b.Inside })
}

// TestModelOfBookings also has the lists that are no bookings because of one booking too many.
func TestModelOfBookings(t *testing.T) {
	number := map[bool]int{}
	for _, c := range slices.Concat(smallAndCrowdedLists(), namedBookings(), mixedBookings(200)) {
		want := modelValid(c.n, c.list)
		if got := impl.BookingsValid(c.n, c.list); got != want {
			t.Fatalf("%s: BookingsValid of %v with %d legs: got %v", c.name, c.list, c.n, got)
		}
		number[want]++
	}
	if number[true] < 500 || number[false] < 50 {
		t.Errorf("only %d lists are bookings and only %d are none", number[true], number[false])
	}
}

func TestModelOfFreeSeats(t *testing.T) {
	eachBookings(t, func(t *testing.T, c coachBookings) {
		for _, asked := range bookingsOf(c.n) {
			taken := modelTaken(c.n, c.list, asked.Inside)
			want := seatsOfKind(asked.Inside) - slices.Max(taken[asked.From:asked.To])
			if got := impl.SeatsFree(c.n, c.list, asked.From, asked.To, asked.Inside); got != want {
				t.Errorf("SeatsFree for %v: got %d, want %d", asked, got, want)
			}
		}
		for _, asked := range noSingleBookings(c.n) {
			if got := impl.SeatsFree(c.n, c.list, asked.From, asked.To, asked.Inside); got != -1 {
				t.Errorf("SeatsFree for %v: got %d", asked, got)
			}
		}
	})
}

func TestModelOfBookedSeats(t *testing.T) {
	eachBookings(t, func(t *testing.T, c coachBookings) {
		for _, b := range slices.Concat(bookingsOf(c.n), noSingleBookings(c.n)) {
			want := append(slices.Clone(c.list), b)
			fits := modelValid(c.n, want)
			if !fits {
				want = nil
			}
			if got, ok := impl.SeatsBook(c.n, c.list, b); ok != fits || !slices.Equal(got, want) {
				t.Errorf("SeatsBook of %v: got %v and %v, want %v", b, got, ok, want)
			}
		}
	})
}

func TestModelOfCancelledAndMovedSeats(t *testing.T) {
	eachBookings(t, func(t *testing.T, c coachBookings) {
		for k := range c.list {
			want := slices.Delete(slices.Clone(c.list), k, k+1)
			if got, ok := impl.SeatsCancel(c.n, c.list, k); !ok || !slices.Equal(got, want) {
				t.Errorf("SeatsCancel of %d: got %v and %v, want %v", k, got, ok, want)
			}
			b := c.list[k]
			moved := slices.Insert(want, k, impl.Booking{From: b.From, To: b.To, Inside: !b.Inside})
			fits := modelValid(c.n, moved)
			if !fits {
				moved = nil
			}
			if got, ok := impl.SeatsMove(c.n, c.list, k); ok != fits || !slices.Equal(got, moved) {
				t.Errorf("SeatsMove of %d: got %v and %v, want %v", k, got, ok, moved)
			}
		}
	})
}

func TestModelOfPeople(t *testing.T) {
	eachBookings(t, func(t *testing.T, c coachBookings) {
		inside, outside := modelTaken(c.n, c.list, true), modelTaken(c.n, c.list, false)
		if got, ok := impl.SeatsTaken(c.n, c.list, true); !ok || !slices.Equal(got, inside) {
			t.Errorf("SeatsTaken inside: got %v and %v, want %v", got, ok, inside)
		}
		if got, ok := impl.SeatsTaken(c.n, c.list, false); !ok || !slices.Equal(got, outside) {
			t.Errorf("SeatsTaken outside: got %v and %v, want %v", got, ok, outside)
		}
		ride := modelRide(c.n, c.list)
		if got, ok := impl.SeatsRide(c.n, c.list); !ok || !slices.Equal(got, ride) {
			t.Errorf("SeatsRide: got %v and %v, want %v", got, ok, ride)
		}
		full := []int{}
		for leg := range c.n {
			if inside[leg] == 4 && outside[leg] == 6 {
				full = append(full, leg)
			}
		}
		if got := impl.SeatsFull(c.n, c.list); !slices.Equal(got, full) {
			t.Errorf("SeatsFull: got %v, want %v", got, full)
		}
	})
}

func TestModelOfMadeSeatings(t *testing.T) {
	eachBookings(t, func(t *testing.T, c coachBookings) {
		want := modelMakeSeating(c.n, c.list)
		if got, ok := impl.SeatingMake(c.n, c.list); !ok || !slices.Equal(got, want) {
			t.Errorf("SeatingMake: got %v and %v, want %v", got, ok, want)
		}
	})
}

func TestModelOfSeatings(t *testing.T) {
	s := &numbers{state: 71}
	eachSeating(t, func(t *testing.T, c coachBookings, seating []int) {
		if !impl.SeatingValid(c.n, c.list, seating) {
			t.Errorf("SeatingValid does not hold")
		}
		for range min(len(seating), 5) {
			changed := slices.Clone(seating)
			changed[s.below(len(seating))] = s.below(9) - 1
			if got, want := impl.SeatingValid(c.n, c.list, changed), modelSeating(c.list, changed); got != want {
				t.Errorf("SeatingValid of %v: got %v", changed, got)
			}
		}
	})
}

// TestModelOfSmallSeatings holds all lists of 3 seats, also of some that there are not, against the model.
func TestModelOfSmallSeatings(t *testing.T) {
	seats := []int{-1, 0, 3, 4, 5, 6}
	for _, list := range smallLists(2, nil, 3) {
		if len(list) != 3 {
			continue
		}
		for code := range 216 {
			seating := []int{seats[code%6], seats[code/6%6], seats[code/36]}
			if got, want := impl.SeatingValid(2, list, seating), modelSeating(list, seating); got != want {
				t.Fatalf("SeatingValid of %v and %v: got %v", list, seating, got)
			}
		}
	}
}

func TestModelOfTakings(t *testing.T) {
	s := &numbers{state: 73}
	eachBookings(t, func(t *testing.T, c coachBookings) {
		for range 3 {
			miles := []int{}
			for range c.n {
				miles = append(miles, 1+s.below(99))
			}
			inside, outside := s.below(101), s.below(101)
			want := modelTakings(c.list, miles, inside, outside)
			if got := impl.SeatsTakings(c.n, c.list, miles, inside, outside); got != want {
				t.Errorf("SeatsTakings with %v, %d and %d: got %d, want %d", miles, inside, outside, got, want)
			}
		}
	})
}

func TestModelOfBest(t *testing.T) {
	eachBookings(t, func(t *testing.T, c coachBookings) {
		list := insideOnly(c.list)
		want := modelBest(c.n, list)
		if got, ok := impl.SeatsBest(c.n, list); !ok || !slices.Equal(got, want) {
			t.Errorf("SeatsBest of %v: got %v and %v, want %v", list, got, ok, want)
		}
		if len(list) == len(c.list) {
			return
		}
		if got, ok := impl.SeatsBest(c.n, c.list); ok || len(got) > 0 {
			t.Errorf("SeatsBest with outside bookings: got %v and %v", got, ok)
		}
	})
}
