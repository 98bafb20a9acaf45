package tests

import (
	"fmt"
	"slices"
	"testing"

	"loop.example/mailcoaches/impl"
)

// coachBookings are bookings of a coach, with the name by which a failure is told.
type coachBookings struct {
	name string
	n    int
	list []impl.Booking
}

// inBooking is a booking of an inside seat.
func inBooking(from int, to int) impl.Booking {
	return impl.Booking{From: from, To: to, Inside: true}
}

// outBooking is a booking of an outside seat.
func outBooking(from int, to int) impl.Booking {
	return impl.Booking{From: from, To: to}
}

// many are equal bookings.
func many(number int, b impl.Booking) []impl.Booking {
	return slices.Repeat([]impl.Booking{b}, number)
}

// seatsOfKind is the number of seats of a kind.
func seatsOfKind(inside bool) int {
	if inside {
		return 4
	}
	return 6
}

// fullLegs are bookings of all seats of both kinds from one stop to another one.
func fullLegs(from int, to int) []impl.Booking {
	return slices.Concat(many(4, inBooking(from, to)), many(6, outBooking(from, to)))
}

// plainBookings are ordinary bookings of a coach of 3 legs.
func plainBookings() []impl.Booking {
	return []impl.Booking{inBooking(0, 2), inBooking(1, 3), inBooking(2, 3), outBooking(0, 3)}
}

// sixteenBookings are BookingsMax bookings, with all seats taken on the first two of 3 legs.
func sixteenBookings() []impl.Booking {
	return slices.Concat(fullLegs(0, 2), many(4, inBooking(2, 3)), many(2, outBooking(2, 3)))
}

// tiedBookings are inside bookings of which several have the least To.
func tiedBookings() []impl.Booking {
	return []impl.Booking{inBooking(0, 3), inBooking(1, 2), inBooking(0, 2), inBooking(2, 3), inBooking(2, 3)}
}

// namedBookings are bookings with the edge cases of the chapter.
func namedBookings() []coachBookings {
	return slices.Concat(namedFewBookings(), namedManyBookings())
}

// namedFewBookings are those in which seats are left on all legs.
func namedFewBookings() []coachBookings {
	return []coachBookings{
		{"nil, 1 leg", 1, nil},
		{"empty, LegsMax legs", 7, []impl.Booking{}},
		{"plain", 3, plainBookings()},
		{"one inside, 1 leg", 1, []impl.Booking{inBooking(0, 1)}},
		{"one outside, 1 leg", 1, []impl.Booking{outBooking(0, 1)}},
		{"one inside, all of LegsMax legs", 7, []impl.Booking{inBooking(0, 7)}},
		{"one outside, all of LegsMax legs", 7, []impl.Booking{outBooking(0, 7)}},
		{"one on the first leg", 7, []impl.Booking{inBooking(0, 1)}},
		{"one on the last leg", 7, []impl.Booking{outBooking(6, 7)}},
		{"each begins at the To of the one ahead", 7, []impl.Booking{inBooking(0, 1), inBooking(1, 2), inBooking(2, 4), inBooking(4, 7)}},
		{"each ends at the From of the one ahead", 7, []impl.Booking{outBooking(5, 7), outBooking(4, 5), outBooking(1, 4), outBooking(0, 1)}},
		{"same From", 7, []impl.Booking{inBooking(1, 2), inBooking(1, 7), inBooking(1, 4), outBooking(1, 3), outBooking(1, 2)}},
		{"same To", 7, []impl.Booking{inBooking(4, 5), inBooking(0, 5), inBooking(3, 5), outBooking(1, 5), outBooking(0, 5)}},
		{"same From and To, of both kinds", 5, []impl.Booking{inBooking(2, 4), outBooking(2, 4), inBooking(2, 4), outBooking(2, 4)}},
		{"From falls", 7, []impl.Booking{inBooking(6, 7), inBooking(5, 7), inBooking(2, 6), inBooking(1, 2), inBooking(0, 3)}},
		{"several least To", 3, tiedBookings()},
		{"the least To last", 4, []impl.Booking{inBooking(0, 4), inBooking(1, 3), inBooking(2, 3), inBooking(0, 1)}},
		{"short ones below a long one", 7, []impl.Booking{inBooking(0, 7), inBooking(0, 1), inBooking(2, 3), inBooking(5, 6), outBooking(0, 7), outBooking(3, 4)}},
	}
}

// namedManyBookings are those in which some leg has no seat left of some kind, or the list has no room left.
func namedManyBookings() []coachBookings {
	return []coachBookings{
		{"all inside seats, 1 leg", 1, many(4, inBooking(0, 1))},
		{"all outside seats, 1 leg", 1, many(6, outBooking(0, 1))},
		{"all seats, 1 leg", 1, fullLegs(0, 1)},
		{"all inside seats, all of LegsMax legs", 7, many(4, inBooking(0, 7))},
		{"all outside seats, all of LegsMax legs", 7, many(6, outBooking(0, 7))},
		{"all seats, all of LegsMax legs", 7, fullLegs(0, 7)},
		{"all seats, first leg", 3, fullLegs(0, 1)},
		{"all seats, leg between", 3, fullLegs(1, 2)},
		{"all seats, last leg", 3, fullLegs(2, 3)},
		{"all inside seats, all outside seats on the next leg", 4, slices.Concat(many(4, inBooking(1, 2)), many(6, outBooking(2, 3)))},
		{"all seats but an inside one", 7, fullLegs(0, 7)[1:]},
		{"all seats but an outside one", 7, fullLegs(0, 7)[:9]},
		{"all seats but an inside one on one leg", 5, slices.Concat(fullLegs(0, 5)[1:], []impl.Booking{inBooking(0, 2), inBooking(3, 5)})},
		{"all seats but an outside one on one leg", 5, slices.Concat(fullLegs(0, 5)[:9], []impl.Booking{outBooking(0, 2), outBooking(3, 5)})},
		{"all inside seats, over each other like stairs", 7, []impl.Booking{inBooking(0, 4), inBooking(1, 5), inBooking(2, 6), inBooking(3, 7), inBooking(4, 7), inBooking(5, 7), inBooking(6, 7)}},
		{"all outside seats, over each other like stairs", 7, []impl.Booking{outBooking(0, 6), outBooking(1, 7), outBooking(1, 6), outBooking(2, 5), outBooking(3, 6), outBooking(3, 7), outBooking(5, 6)}},
		{"all inside seats, given out in another order than they come free", 7, []impl.Booking{inBooking(0, 5), inBooking(0, 2), inBooking(0, 4), inBooking(0, 3), inBooking(5, 7), inBooking(4, 7), inBooking(3, 6), inBooking(2, 3)}},
		{"BookingsMax, all seats on 2 of 3 legs", 3, sixteenBookings()},
		{"BookingsMax, all on one leg each", 7, slices.Concat(many(4, inBooking(0, 1)), many(4, inBooking(1, 2)), many(6, outBooking(6, 7)), many(2, inBooking(6, 7)))},
		{"BookingsMax, all inside", 4, slices.Concat(many(4, inBooking(0, 1)), many(4, inBooking(1, 2)), many(4, inBooking(2, 3)), many(4, inBooking(3, 4)))},
		{"BookingsMax, all outside", 7, slices.Concat(many(6, outBooking(0, 3)), many(6, outBooking(3, 4)), many(4, outBooking(4, 7)))},
		{"BookingsMax, seats of both kinds left on each leg", 6, slices.Concat(many(2, inBooking(0, 2)), many(3, outBooking(0, 2)), many(3, inBooking(2, 5)), many(3, outBooking(2, 6)), many(2, inBooking(5, 6)), many(1, inBooking(5, 6)), many(2, outBooking(0, 1)))},
	}
}

// mixedBookings are bookings out of a fixed sequence, so many of some that there is hardly a seat left.
func mixedBookings(number int) []coachBookings {
	s := &numbers{state: 61}
	lists := []coachBookings{}
	for i := range number {
		n := 1 + s.below(impl.LegsMax)
		lists = append(lists, coachBookings{fmt.Sprintf("mixed %d", i), n, mixedList(s, n, s.below(60), s.below(5))})
	}
	return lists
}

// mixedList returns what fits of a number of bookings, of which as many of 4 as are given are inside.
func mixedList(s *numbers, n int, tries int, insideOf4 int) []impl.Booking {
	list := []impl.Booking{}
	for range tries {
		from := s.below(n)
		b := impl.Booking{From: from, To: from + 1 + s.below(n-from), Inside: s.below(4) < insideOf4}
		if longer := append(list[:len(list):len(list)], b); modelValid(n, longer) {
			list = longer
		}
	}
	return list
}

// bookingsOf are all bookings that a coach of n legs can have.
func bookingsOf(n int) []impl.Booking {
	list := []impl.Booking{}
	for from := range n {
		for to := from + 1; to <= n; to++ {
			list = append(list, inBooking(from, to), outBooking(from, to))
		}
	}
	return list
}

// smallLists are all lists that begin with some bookings and go on with at most a number of others; not all of them are bookings.
func smallLists(n int, begin []impl.Booking, most int) [][]impl.Booking {
	lists := [][]impl.Booking{begin}
	if most == 0 {
		return lists
	}
	for _, b := range bookingsOf(n) {
		lists = append(lists, smallLists(n, append(begin[:len(begin):len(begin)], b), most-1)...)
	}
	return lists
}

// crowdedCoach has on all legs all seats but one of each kind.
func crowdedCoach(n int) []impl.Booking {
	return slices.Concat(many(3, inBooking(0, n)), many(5, outBooking(0, n)))
}

// smallAndCrowdedLists are all short lists of coaches with few legs, alone and behind a crowd that leaves one seat of each kind; not all of them are bookings.
func smallAndCrowdedLists() []coachBookings {
	lists := []coachBookings{}
	for n, most := range []int{0, 3, 3, 2} {
		for _, begin := range [][]impl.Booking{nil, crowdedCoach(n)} {
			if n == 0 {
				continue
			}
			for _, list := range smallLists(n, begin, most) {
				lists = append(lists, coachBookings{fmt.Sprintf("small %d", len(lists)), n, list})
			}
		}
	}
	return lists
}

// allBookings are all bookings on which the tests are done.
func allBookings() []coachBookings {
	small := slices.DeleteFunc(smallAndCrowdedLists(), func(c coachBookings) bool { return !modelValid(c.n, c.list) })
	return slices.Concat(namedBookings(), mixedBookings(200), small)
}

// eachBookings does a test with all bookings.
func eachBookings(t *testing.T, test func(t *testing.T, c coachBookings)) {
	t.Helper()
	for _, c := range allBookings() {
		test(t, c)
		if t.Failed() {
			t.Fatalf("bookings %q: %d legs, %v", c.name, c.n, c.list)
		}
	}
}

// eachSeating does a test with all bookings, and some seatings of them.
func eachSeating(t *testing.T, test func(t *testing.T, c coachBookings, seating []int)) {
	t.Helper()
	s := &numbers{state: 67}
	eachBookings(t, func(t *testing.T, c coachBookings) {
		for _, seating := range seatingsOf(s, c) {
			test(t, c, seating)
			if t.Failed() {
				t.Fatalf("with the seating %v", seating)
			}
		}
	})
}

// seatingsOf are seatings of bookings: the least seats, the greatest seats, and some out of a sequence.
func seatingsOf(s *numbers, c coachBookings) [][]int {
	least := modelMakeSeating(c.n, c.list)
	greatest := []int{}
	for i, number := range least {
		greatest = append(greatest, seatsOfKind(c.list[i].Inside)-1-number)
	}
	return [][]int{least, greatest, mixedSeating(s, c), mixedSeating(s, c)}
}

// mixedSeating gives each booking, in the order of From, some seat that is free.
func mixedSeating(s *numbers, c coachBookings) []int {
	seating := slices.Repeat([]int{-1}, len(c.list))
	for _, i := range modelOrder(c.n, c.list) {
		seats := seatsOfKind(c.list[i].Inside)
		seating[i] = s.below(seats)
		for modelClash(c.list, seating, i) {
			seating[i] = (seating[i] + 1) % seats
		}
	}
	return seating
}

// noLegs are numbers that are no numbers of legs.
func noLegs() []int {
	return append(farNumbers(), -7, -1, 0, 8, 9, 16)
}

// noSingleBookings are bookings that can be in no list of a coach of n legs.
func noSingleBookings(n int) []impl.Booking {
	list := []impl.Booking{}
	for _, inside := range []bool{true, false} {
		for _, stops := range [][2]int{{0, 0}, {n, n}, {1, 0}, {n, 0}, {n, n - 1}, {-1, 0}, {-1, 1}, {-1, n}, {-1, -1}, {-2, -1}, {-1, n + 1}, {0, n + 1}, {n - 1, n + 1}, {n, n + 1}, {n + 1, n + 2}, {n + 1, n}, {0, -1}, {0, 8}, {0, 64}} {
			list = append(list, impl.Booking{From: stops[0], To: stops[1], Inside: inside})
		}
		for _, far := range farNumbers() {
			list = append(list, impl.Booking{From: far, To: n, Inside: inside}, impl.Booking{From: 0, To: far, Inside: inside}, impl.Booking{From: far, To: far, Inside: inside}, impl.Booking{From: far, To: far + 1, Inside: inside})
		}
	}
	return list
}

// noBookings are lists that are no bookings.
func noBookings() []coachBookings {
	lists := []coachBookings{
		{"more inside seats than there are, 1 leg", 1, many(5, inBooking(0, 1))},
		{"more outside seats than there are, 1 leg", 1, many(7, outBooking(0, 1))},
		{"more inside seats than there are, all legs", 7, many(5, inBooking(0, 7))},
		{"more outside seats than there are, all legs", 7, many(7, outBooking(0, 7))},
		{"all seats and an inside one", 2, append(fullLegs(0, 2), inBooking(0, 2))},
		{"all seats and an outside one", 2, append(fullLegs(0, 2), outBooking(0, 2))},
		{"more inside seats than there are, first leg", 3, append(many(4, inBooking(0, 3)), inBooking(0, 1))},
		{"more inside seats than there are, leg between", 3, append(many(4, inBooking(0, 2)), inBooking(1, 3))},
		{"more outside seats than there are, last leg", 3, append(many(6, outBooking(1, 3)), outBooking(2, 3))},
		{"more outside seats than there are, the longest one first", 3, append([]impl.Booking{outBooking(0, 3)}, many(6, outBooking(1, 2))...)},
		{"seventeen bookings", 7, append(sixteenBookings(), outBooking(5, 6))},
		{"seventeen bookings, one on each leg of a kind at most", 7, slices.Concat(many(1, inBooking(0, 1)), many(2, outBooking(0, 1)), many(2, inBooking(1, 2)), many(2, outBooking(1, 2)), many(2, inBooking(2, 3)), many(2, outBooking(2, 3)), many(2, inBooking(3, 4)), many(2, outBooking(3, 4)), many(2, inBooking(4, 5)))},
		{"far too many bookings", 7, many(1000, inBooking(0, 1))},
	}
	for _, n := range []int{1, 2, 7} {
		last := []impl.Booking{inBooking(0, 1), outBooking(n-1, n)}
		for i, b := range noSingleBookings(n) {
			lists = append(lists,
				coachBookings{fmt.Sprintf("booking %d alone: %v", i, b), n, []impl.Booking{b}},
				coachBookings{fmt.Sprintf("booking %d first: %v", i, b), n, append([]impl.Booking{b}, last...)},
				coachBookings{fmt.Sprintf("booking %d last: %v", i, b), n, append(last[:2:2], b)},
			)
		}
	}
	for _, n := range noLegs() {
		for _, list := range [][]impl.Booking{nil, {}, {inBooking(0, 1)}, {outBooking(0, 7)}, fullLegs(0, 1)} {
			lists = append(lists, coachBookings{fmt.Sprintf("a coach of %d legs", n), n, list})
		}
	}
	return lists
}
