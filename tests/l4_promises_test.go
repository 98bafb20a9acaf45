package tests

import (
	"slices"
	"testing"

	"loop.example/mailcoaches/impl"
)

// P37. If BookingsValid holds, it holds for the first bookings alone, in the opposite order, and SeatingMake succeeds.
func TestP37Bookings(t *testing.T) {
	eachBookings(t, func(t *testing.T, c coachBookings) {
		for k := range len(c.list) + 1 {
			first := slices.Clone(c.list[:k])
			if !impl.BookingsValid(c.n, first) {
				t.Errorf("BookingsValid does not hold for the first %d", k)
			}
			slices.Reverse(first)
			if !impl.BookingsValid(c.n, first) {
				t.Errorf("BookingsValid does not hold for the first %d in the opposite order", k)
			}
			if seating, ok := impl.SeatingMake(c.n, first); !ok || len(seating) != k {
				t.Errorf("SeatingMake of the first %d gives %v and %v", k, seating, ok)
			}
		}
	})
}

// P38. If SeatsFree is not -1, SeatsBook of a booking there succeeds exactly if it is greater than 0 and there is room in the list, and then it is 1 less; on a part of the legs it is not less.
func TestP38Free(t *testing.T) {
	eachBookings(t, func(t *testing.T, c coachBookings) {
		for _, b := range bookingsOf(c.n) {
			free := impl.SeatsFree(c.n, c.list, b.From, b.To, b.Inside)
			if free < 0 || free > seatsOfKind(b.Inside) {
				t.Fatalf("SeatsFree for %v is %d", b, free)
			}
			booked, ok := impl.SeatsBook(c.n, c.list, b)
			if ok != (free > 0 && len(c.list) < impl.BookingsMax) {
				t.Errorf("SeatsFree for %v is %d, but SeatsBook gives %v", b, free, ok)
			}
			if less := impl.SeatsFree(c.n, booked, b.From, b.To, b.Inside); ok && less != free-1 {
				t.Errorf("SeatsFree for %v is %d, and then %d", b, free, less)
			}
			for _, part := range bookingsOf(c.n) {
				if part.Inside != b.Inside || part.From < b.From || part.To > b.To {
					continue
				}
				if more := impl.SeatsFree(c.n, c.list, part.From, part.To, part.Inside); more < free {
					t.Errorf("SeatsFree for %v is %d, but for %v %d", b, free, part, more)
				}
			}
		}
	})
}

// P39. If SeatsBook succeeds, SeatsCancel of the last one leads back, SeatsTaken of its kind is 1 greater on its legs, and as before elsewhere and of the other kind.
func TestP39Book(t *testing.T) {
	booked := 0
	eachBookings(t, func(t *testing.T, c coachBookings) {
		for _, b := range bookingsOf(c.n) {
			list, ok := impl.SeatsBook(c.n, c.list, b)
			if !ok {
				continue
			}
			booked++
			if back, ok := impl.SeatsCancel(c.n, list, len(list)-1); !ok || !slices.Equal(back, c.list) {
				t.Errorf("SeatsCancel of %v gives %v and %v", list, back, ok)
			}
			checkTakenMore(t, c, list, b)
		}
	})
	if booked < 1000 {
		t.Errorf("only %d bookings were made", booked)
	}
}

// checkTakenMore checks that just the legs of a booking have one seat more that is taken, and just of its kind.
func checkTakenMore(t *testing.T, c coachBookings, list []impl.Booking, b impl.Booking) {
	t.Helper()
	for _, inside := range []bool{true, false} {
		before, _ := impl.SeatsTaken(c.n, c.list, inside)
		after, ok := impl.SeatsTaken(c.n, list, inside)
		if !ok || len(after) != c.n || len(before) != c.n {
			t.Fatalf("SeatsTaken is %v, and then %v and %v", before, after, ok)
		}
		for leg := range c.n {
			more := 0
			if inside == b.Inside && b.From <= leg && leg < b.To {
				more = 1
			}
			if after[leg] != before[leg]+more {
				t.Errorf("SeatsTaken inside %v is %v, and with %v %v", inside, before, b, after)
			}
		}
	}
}

// P40. If SeatsCancel succeeds, SeatsBook of the booking succeeds, SeatsFree on its legs is at least 1, and a seating without it is one.
func TestP40Cancel(t *testing.T) {
	eachSeating(t, func(t *testing.T, c coachBookings, seating []int) {
		for k, b := range c.list {
			list, ok := impl.SeatsCancel(c.n, c.list, k)
			if !ok || len(list) != len(c.list)-1 {
				t.Fatalf("SeatsCancel of %d gives %v and %v", k, list, ok)
			}
			if again, ok := impl.SeatsBook(c.n, list, b); !ok || len(again) != len(c.list) {
				t.Errorf("SeatsBook of %v, which was cancelled, gives %v and %v", b, again, ok)
			}
			if free := impl.SeatsFree(c.n, list, b.From, b.To, b.Inside); free < 1 {
				t.Errorf("SeatsFree without %v is %d", b, free)
			}
			if rest := slices.Delete(slices.Clone(seating), k, k+1); !impl.SeatingValid(c.n, list, rest) {
				t.Errorf("without %v SeatingValid of %v does not hold", b, rest)
			}
		}
	})
}

// P41. If SeatsTaken succeeds, on each leg it and SeatsFree there are all seats of the kind, and its sum is that of the legs of all bookings of the kind.
func TestP41Taken(t *testing.T) {
	eachBookings(t, func(t *testing.T, c coachBookings) {
		for _, inside := range []bool{true, false} {
			taken, ok := impl.SeatsTaken(c.n, c.list, inside)
			if !ok || len(taken) != c.n {
				t.Fatalf("SeatsTaken gives %v and %v", taken, ok)
			}
			for leg, number := range taken {
				if free := impl.SeatsFree(c.n, c.list, leg, leg+1, inside); free+number != seatsOfKind(inside) {
					t.Errorf("SeatsFree on the leg %d is %d, but SeatsTaken inside %v %v", leg, free, inside, taken)
				}
			}
			all := 0
			for _, b := range c.list {
				if b.Inside == inside {
					all += b.To - b.From
				}
			}
			if sum := sumOf(taken); sum != all {
				t.Errorf("the sum of SeatsTaken %v is %d, want %d", taken, sum, all)
			}
		}
	})
}

// P42. If SeatingValid holds, it holds without any booking and its seat, the numbers are those of seats of the kind, and two bookings with one seat and kind have no leg in common.
func TestP42Seating(t *testing.T) {
	eachSeating(t, func(t *testing.T, c coachBookings, seating []int) {
		if !impl.SeatingValid(c.n, c.list, seating) {
			t.Fatalf("SeatingValid does not hold")
		}
		for k, b := range c.list {
			list, rest := slices.Delete(slices.Clone(c.list), k, k+1), slices.Delete(slices.Clone(seating), k, k+1)
			if !impl.SeatingValid(c.n, list, rest) {
				t.Errorf("SeatingValid does not hold without %v", b)
			}
			for number := -2; number < 9; number++ {
				changed := slices.Clone(seating)
				changed[k] = number
				if !impl.SeatingValid(c.n, c.list, changed) {
					continue
				}
				if number < 0 || number >= seatsOfKind(b.Inside) || modelClash(c.list, changed, k) {
					t.Errorf("SeatingValid holds for %v", changed)
				}
			}
		}
	})
}

// P43. If SeatingMake succeeds, it is a seating, and the number of seats of each kind is the greatest number of SeatsTaken.
func TestP43Make(t *testing.T) {
	eachBookings(t, func(t *testing.T, c coachBookings) {
		seating, ok := impl.SeatingMake(c.n, c.list)
		if !ok || !impl.SeatingValid(c.n, c.list, seating) {
			t.Fatalf("SeatingMake gives %v and %v", seating, ok)
		}
		for _, inside := range []bool{true, false} {
			used := map[int]bool{}
			for i, number := range seating {
				if c.list[i].Inside == inside {
					used[number] = true
				}
			}
			if taken, ok := impl.SeatsTaken(c.n, c.list, inside); !ok || slices.Max(taken) != len(used) {
				t.Errorf("SeatingMake gives %v, but SeatsTaken inside %v is %v", seating, inside, taken)
			}
		}
	})
}

// P44. If SeatsFull is not empty, on its legs SeatsFree of both kinds is 0 and SeatsRide all seats, and on no other leg is it so.
func TestP44Full(t *testing.T) {
	full := 0
	eachBookings(t, func(t *testing.T, c coachBookings) {
		legs := impl.SeatsFull(c.n, c.list)
		full += len(legs)
		if !slices.IsSorted(legs) || len(slices.Compact(slices.Clone(legs))) != len(legs) {
			t.Errorf("SeatsFull is %v", legs)
		}
		ride, _ := impl.SeatsRide(c.n, c.list)
		for leg := range c.n {
			inside, outside := impl.SeatsFree(c.n, c.list, leg, leg+1, true), impl.SeatsFree(c.n, c.list, leg, leg+1, false)
			has := slices.Contains(legs, leg)
			if (inside == 0 && outside == 0) != has || (ride[leg] == impl.InsideMax+impl.OutsideMax) != has {
				t.Errorf("SeatsFull is %v, but on the leg %d SeatsFree is %d and %d and SeatsRide %v", legs, leg, inside, outside, ride)
			}
		}
	})
	if full < 20 {
		t.Errorf("only %d legs were full", full)
	}
}

// P45. If SeatsTakings is not -1, it is that without any booking plus its miles times its fare, and with both fares 1 it is the sum of miles times SeatsRide.
func TestP45Takings(t *testing.T) {
	legs := []int{5, 99, 1, 40, 7, 23, 66}
	eachBookings(t, func(t *testing.T, c coachBookings) {
		miles := legs[:c.n]
		for _, fares := range [][2]int{{1, 1}, {4, 2}, {0, 100}, {100, 0}, {7, 7}, {0, 0}} {
			takings := impl.SeatsTakings(c.n, c.list, miles, fares[0], fares[1])
			for k, b := range c.list {
				rest := slices.Delete(slices.Clone(c.list), k, k+1)
				fare := fares[1]
				if b.Inside {
					fare = fares[0]
				}
				less := impl.SeatsTakings(c.n, rest, miles, fares[0], fares[1])
				if paid := sumOf(miles[b.From:b.To]) * fare; less < 0 || less+paid != takings {
					t.Errorf("SeatsTakings with fares %v is %d, but without %v %d", fares, takings, b, less)
				}
			}
		}
		ride, _ := impl.SeatsRide(c.n, c.list)
		sum := 0
		for leg, people := range ride {
			sum += miles[leg] * people
		}
		if takings := impl.SeatsTakings(c.n, c.list, miles, 1, 1); takings != sum {
			t.Errorf("SeatsTakings with fares of 1 is %d, but SeatsRide %v", takings, ride)
		}
	})
}

// eachInside does a test with the inside bookings of all bookings.
func eachInside(t *testing.T, test func(t *testing.T, c coachBookings)) {
	t.Helper()
	eachBookings(t, func(t *testing.T, c coachBookings) {
		test(t, coachBookings{c.name, c.n, insideOnly(c.list)})
	})
}

// P46. If SeatsBest succeeds, its bookings have no leg in common, each booking that is left out has a leg in common with one of them, and there are at most as many as legs, and at least one if there are bookings.
func TestP46Best(t *testing.T) {
	eachInside(t, func(t *testing.T, c coachBookings) {
		best, ok := impl.SeatsBest(c.n, c.list)
		if !ok || len(best) > c.n || len(c.list) > 0 && len(best) == 0 {
			t.Fatalf("SeatsBest gives %v and %v", best, ok)
		}
		for i, k := range best {
			if k < 0 || k >= len(c.list) || i > 0 && k <= best[i-1] {
				t.Fatalf("SeatsBest is %v", best)
			}
		}
		for i, b := range c.list {
			apart := true
			for _, k := range best {
				apart = apart && (k == i || modelApartLegs(b, c.list[k]))
			}
			if apart != slices.Contains(best, i) {
				t.Errorf("SeatsBest is %v", best)
			}
		}
	})
}

// P47. If SeatsBest succeeds for at most 8 bookings, no bookings without a leg in common are more.
func TestP47Most(t *testing.T) {
	eachInside(t, func(t *testing.T, c coachBookings) {
		list := c.list[:min(len(c.list), 8)]
		best, ok := impl.SeatsBest(c.n, list)
		if most := modelMost(nil, list); !ok || len(best) != most {
			t.Errorf("SeatsBest of %v gives %v and %v, but %d can be taken", list, best, ok, most)
		}
	})
}

// P48. If SeatsMove succeeds, SeatsMove of it leads back, SeatsRide is the same, and with equal fares the takings are, too.
func TestP48Move(t *testing.T) {
	moves := 0
	eachBookings(t, func(t *testing.T, c coachBookings) {
		for k := range c.list {
			moved, ok := impl.SeatsMove(c.n, c.list, k)
			if !ok {
				continue
			}
			moves++
			if back, ok := impl.SeatsMove(c.n, moved, k); !ok || !slices.Equal(back, c.list) || slices.Equal(moved, c.list) {
				t.Errorf("SeatsMove of %d gives %v, and then %v and %v", k, moved, back, ok)
			}
			before, _ := impl.SeatsRide(c.n, c.list)
			if after, ok := impl.SeatsRide(c.n, moved); !ok || !slices.Equal(before, after) {
				t.Errorf("SeatsRide is %v, but with %d moved %v and %v", before, k, after, ok)
			}
			miles := slices.Repeat([]int{13}, c.n)
			if before, after := impl.SeatsTakings(c.n, c.list, miles, 9, 9), impl.SeatsTakings(c.n, moved, miles, 9, 9); before != after || before < 1 {
				t.Errorf("SeatsTakings is %d, but with %d moved %d", before, k, after)
			}
		}
	})
	if moves < 1000 {
		t.Errorf("only %d bookings were moved", moves)
	}
}

// P49. If SeatsRide succeeds, each number is the one ahead plus those whose From is the stop less those whose To is it, and none is greater than all seats.
func TestP49Ride(t *testing.T) {
	eachBookings(t, func(t *testing.T, c coachBookings) {
		ride, ok := impl.SeatsRide(c.n, c.list)
		if !ok || len(ride) != c.n {
			t.Fatalf("SeatsRide gives %v and %v", ride, ok)
		}
		people := 0
		for stop, number := range ride {
			for _, b := range c.list {
				if b.From == stop {
					people++
				}
				if b.To == stop {
					people--
				}
			}
			if number != people || number > impl.InsideMax+impl.OutsideMax {
				t.Errorf("SeatsRide is %v, but behind the stop %d there are %d people", ride, stop, people)
			}
		}
	})
}
