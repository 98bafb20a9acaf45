package tests

import (
	"slices"
	"testing"

	"loop.example/mailcoaches/impl"
)

// addedNumbers returns the sums of the numbers of two lists that are as long as each other.
func addedNumbers(t *testing.T, a []int, b []int) []int {
	t.Helper()
	if len(a) != len(b) {
		t.Fatalf("%v and %v are not of equal length", a, b)
	}
	sums := []int{}
	for i := range a {
		sums = append(sums, a[i]+b[i])
	}
	return sums
}

// loads, stack and room ask the program, which must not fail.
func (c coachBill) loads(t *testing.T) []int {
	t.Helper()
	loads, ok := impl.BillLoads(c.n, c.bill)
	if !ok || len(loads) != c.n {
		t.Fatalf("BillLoads of %v gives %v and %v", c.bill, loads, ok)
	}
	return loads
}

func (c coachBill) stack(t *testing.T, stop int) []int {
	t.Helper()
	stack, ok := impl.BillStack(c.n, c.bill, stop)
	if !ok {
		t.Fatalf("BillStack of %v fails at the stop %d", c.bill, stop)
	}
	return stack
}

func (c coachBill) room(p impl.Parcel) int {
	return impl.BillRoom(c.n, c.bill, p.From, p.To)
}

// with is the way-bill with other parcels.
func (c coachBill) with(bill []impl.Parcel) coachBill {
	return coachBill{c.name, c.n, bill}
}

// P96. If BillValid holds, it holds for the first parcels alone, in the opposite order, and BillLoads of both parts of the parcels together are all loads.
func TestP96Valid(t *testing.T) {
	eachBill(t, func(t *testing.T, c coachBill) {
		if !impl.BillValid(c.n, c.bill) || !impl.BillValid(c.n, turnedOver(c.bill)) {
			t.Fatalf("BillValid does not hold, or not in the opposite order")
		}
		whole := c.loads(t)
		for k := range len(c.bill) + 1 {
			if !impl.BillValid(c.n, c.bill[:k]) {
				t.Fatalf("BillValid does not hold for the first %d parcels", k)
			}
			first, others := c.with(c.bill[:k]).loads(t), c.with(c.bill[k:]).loads(t)
			if !slices.Equal(addedNumbers(t, first, others), whole) {
				t.Errorf("BillLoads is %v, of the first %d parcels %v, and of the others %v", whole, k, first, others)
			}
		}
		if loads := c.with(turnedOver(c.bill)).loads(t); !slices.Equal(loads, whole) {
			t.Errorf("BillLoads is %v, and in the opposite order %v", whole, loads)
		}
	})
}

// P97. If BillLoads succeeds, each load is the one ahead plus what is put in at the stop less what is taken out, from 0 to LoadMax, and their sum is BillPound.
func TestP97Loads(t *testing.T) {
	eachBill(t, func(t *testing.T, c coachBill) {
		loads, ahead := c.loads(t), 0
		for stop, load := range loads {
			for _, p := range c.bill {
				if p.From == stop {
					ahead += p.Weight
				}
				if p.To == stop {
					ahead -= p.Weight
				}
			}
			if load != ahead || load < 0 || load > impl.LoadMax {
				t.Errorf("BillLoads is %v, but behind the stop %d there are %d pounds", loads, stop, ahead)
			}
		}
		if pound := impl.BillPound(c.n, c.bill); pound != sumOf(loads) {
			t.Errorf("BillLoads is %v, and BillPound %d", loads, pound)
		}
	})
}

// P98. If BillRoom is not -1, BillAdd of a parcel of 1 to 99 pounds succeeds exactly if its weight is at most it and there is room in the list, and then BillRoom is less by the weight.
func TestP98Room(t *testing.T) {
	added, tooHeavy, tooMany := 0, 0, 0
	eachBill(t, func(t *testing.T, c coachBill) {
		for i, p := range carriagesOf(c.n) {
			room := c.room(p)
			if room < 0 || room > impl.LoadMax {
				t.Fatalf("BillRoom of %v is %d", p, room)
			}
			for _, weight := range []int{1, 2 + 5*i%97, 98, 99, room, room + 1} {
				if weight < 1 || weight > 99 {
					continue
				}
				p.Weight = weight
				longer, ok := impl.BillAdd(c.n, c.bill, p)
				if ok != (weight <= room && len(c.bill) < impl.ParcelsMax) {
					t.Errorf("BillAdd of %v gives %v and %v, and BillRoom is %d", p, longer, ok, room)
				}
				switch {
				case ok:
					added++
					if less := c.with(longer).room(p); less != room-weight {
						t.Errorf("BillRoom is %d, and with %v %d", room, p, less)
					}
				case weight > room:
					tooHeavy++
				default:
					tooMany++
				}
			}
		}
	})
	if added < 10000 || tooHeavy < 1000 || tooMany < 1000 {
		t.Errorf("%d parcels were added, %d were too heavy, and %d too many", added, tooHeavy, tooMany)
	}
}

// P99. If BillAdd succeeds, BillDrop of the last one leads back, BillPound is greater by its weight times its legs, and when the coach leaves its From it is on top of the stack.
func TestP99Add(t *testing.T) {
	s, others := &numbers{state: 251}, 0
	eachBill(t, func(t *testing.T, c coachBill) {
		pound := impl.BillPound(c.n, c.bill)
		for _, p := range carriagesOf(c.n) {
			p.Weight = 1 + s.below(99)
			longer, ok := impl.BillAdd(c.n, c.bill, p)
			if !ok {
				continue
			}
			last := len(c.bill)
			back, ok := impl.BillDrop(c.n, longer, last)
			parcelsDiffer(t, "BillDrop of the last one", back, ok, c.bill, true)
			if more := impl.BillPound(c.n, longer); more != pound+p.Weight*(p.To-p.From) {
				t.Errorf("BillPound is %d, and with %v %d", pound, p, more)
			}
			stack := c.with(longer).stack(t, p.From)
			if len(stack) == 0 || stack[len(stack)-1] != last {
				t.Errorf("with %v BillStack is %v where it is put in", p, stack)
			}
			others += len(stack) - 1
		}
	})
	if others < 5000 {
		t.Errorf("just %d parcels lay below those that were added", others)
	}
}

// P100. If BillDrop succeeds, there is one parcel less, BillMoves is not greater, and BillRoom on its legs is at least its weight.
func TestP100Drop(t *testing.T) {
	fewer := 0
	eachBill(t, func(t *testing.T, c coachBill) {
		moves := impl.BillMoves(c.n, c.bill)
		for k, p := range c.bill {
			left, ok := impl.BillDrop(c.n, c.bill, k)
			if !ok || len(left) != len(c.bill)-1 || !impl.BillValid(c.n, left) {
				t.Fatalf("BillDrop of %d gives %v and %v", k, left, ok)
			}
			now := impl.BillMoves(c.n, left)
			if now < 0 || now > moves {
				t.Errorf("BillMoves is %d, and without the parcel %d it is %d", moves, k, now)
			}
			fewer += min(1, moves-now)
			if room := c.with(left).room(p); room < p.Weight {
				t.Errorf("without the parcel %d BillRoom is %d", k, room)
			}
		}
	})
	if fewer < 3000 {
		t.Errorf("BillMoves was less just %d times", fewer)
	}
}

// P101. If BillStack succeeds, it has just the parcels whose From is at most the stop and whose To is greater, those with a lesser From below, and is empty at the last stop.
func TestP101Stack(t *testing.T) {
	eachBill(t, func(t *testing.T, c coachBill) {
		for stop := range c.n + 1 {
			stack, aboard := c.stack(t, stop), []int{}
			for i, p := range c.bill {
				if p.From <= stop && p.To > stop {
					aboard = append(aboard, i)
				}
			}
			sorted := slices.Sorted(slices.Values(stack))
			if !slices.Equal(sorted, aboard) {
				t.Fatalf("BillStack of the stop %d is %v", stop, stack)
			}
			for i := 1; i < len(stack); i++ {
				below, above := stack[i-1], stack[i]
				if c.bill[below].From > c.bill[above].From || c.bill[below].From == c.bill[above].From && below > above {
					t.Errorf("BillStack of the stop %d is %v", stop, stack)
				}
			}
		}
		if stack := c.stack(t, c.n); len(stack) > 0 {
			t.Errorf("BillStack of the last stop is %v", stack)
		}
	})
}

// unloaded returns the stack behind a stop out of the one ahead of it, and how many parcels lay above those that were taken out.
func unloaded(bill []impl.Parcel, stack []int, stop int) ([]int, int) {
	left, moves := slices.Clone(stack), 0
	for i, p := range bill {
		if at := slices.Index(left, i); p.To == stop && at >= 0 {
			moves += len(left) - 1 - at
			left = slices.Delete(left, at, at+1)
		}
	}
	for i, p := range bill {
		if p.From == stop {
			left = append(left, i)
		}
	}
	return left, moves
}

// P102. If BillMoves is not -1, it is the number of pairs of parcels of which the one lies above the other one when this is taken out: it lies above it, and has not been taken out ahead of it.
func TestP102Moves(t *testing.T) {
	eachBill(t, func(t *testing.T, c coachBill) {
		stack, moves := c.stack(t, 0), 0
		for stop := 1; stop <= c.n; stop++ {
			next, more := unloaded(c.bill, stack, stop)
			stack, moves = c.stack(t, stop), moves+more
			if !slices.Equal(stack, next) {
				t.Fatalf("BillStack of the stop %d is %v, want %v", stop, stack, next)
			}
		}
		if got := impl.BillMoves(c.n, c.bill); got != moves {
			t.Errorf("BillMoves is %d, want %d", got, moves)
		}
	})
}

// P102 with all pairs: each one alone is moved or not, and all moves are those of the pairs.
func TestP102MovesOfPairs(t *testing.T) {
	eachBill(t, func(t *testing.T, c coachBill) {
		pairs := 0
		for i, first := range c.bill {
			for _, second := range c.bill[i+1:] {
				moves := impl.BillMoves(c.n, []impl.Parcel{first, second})
				if moves < 0 || moves > 1 {
					t.Fatalf("BillMoves of %v and %v is %d", first, second, moves)
				}
				pairs += moves
			}
		}
		if moves := impl.BillMoves(c.n, c.bill); moves != pairs {
			t.Errorf("BillMoves is %d, and that of all pairs %d", moves, pairs)
		}
	})
}

// crossWith reports whether a parcel begins between the stops of another one and ends behind it.
func crossWith(p impl.Parcel, other impl.Parcel) bool {
	return other.From < p.From && p.From < other.To && other.To < p.To
}

// P103. If BillNested holds, no two parcels cross: none begins between the stops of another one and ends behind it; and it holds for the first parcels alone.
func TestP103Nested(t *testing.T) {
	nested, crossed := 0, 0
	eachBill(t, func(t *testing.T, c coachBill) {
		cross := false
		for _, p := range c.bill {
			cross = cross || slices.ContainsFunc(c.bill, func(other impl.Parcel) bool { return crossWith(p, other) })
		}
		holds := impl.BillNested(c.n, c.bill)
		if holds && cross {
			t.Errorf("BillNested holds with parcels that cross")
		}
		if holds != (impl.BillMoves(c.n, c.bill) == 0) {
			t.Errorf("BillNested is %v, and BillMoves %d", holds, impl.BillMoves(c.n, c.bill))
		}
		if cross {
			crossed++
		}
		if !holds {
			return
		}
		nested++
		for k := range c.bill {
			if !impl.BillNested(c.n, c.bill[:k]) {
				t.Errorf("BillNested holds, but not for the first %d parcels", k)
			}
		}
	})
	if nested < 300 || crossed < 500 {
		t.Errorf("BillNested held %d times, and on %d way-bills parcels cross", nested, crossed)
	}
}

// P104. If BillOrder succeeds, it has as many parcels, the same loads and BillPound, and BillOrder of it is itself.
func TestP104Order(t *testing.T) {
	eachBill(t, func(t *testing.T, c coachBill) {
		order, ok := impl.BillOrder(c.n, c.bill)
		if !ok || len(order) != len(c.bill) || !impl.BillValid(c.n, order) {
			t.Fatalf("BillOrder gives %v and %v", order, ok)
		}
		if before, after := c.loads(t), c.with(order).loads(t); !slices.Equal(before, after) {
			t.Errorf("BillLoads is %v, and in order %v", before, after)
		}
		if before, after := impl.BillPound(c.n, c.bill), impl.BillPound(c.n, order); before != after {
			t.Errorf("BillPound is %d, and in order %d", before, after)
		}
		again, ok := impl.BillOrder(c.n, order)
		parcelsDiffer(t, "BillOrder of it", again, ok, order, true)
		for i := 1; i < len(order); i++ {
			a, b := order[i-1], order[i]
			if a.From > b.From || a.From == b.From && a.To < b.To {
				t.Errorf("BillOrder is %v", order)
			}
		}
	})
}

// P105. If BillPound is not -1, it is the sum over all parcels of weight times legs, the same for BillTurn, and at most LoadMax times the legs.
func TestP105Pound(t *testing.T) {
	most := 0
	eachBill(t, func(t *testing.T, c coachBill) {
		sum := 0
		for _, p := range c.bill {
			sum += p.Weight * (p.To - p.From)
		}
		pound := impl.BillPound(c.n, c.bill)
		if pound != sum || pound > impl.LoadMax*c.n {
			t.Errorf("BillPound is %d, want %d", pound, sum)
		}
		most = max(most, pound)
		turned, ok := impl.BillTurn(c.n, c.bill)
		if again := impl.BillPound(c.n, turned); !ok || again != pound {
			t.Errorf("BillPound is %d, and turned %d", pound, again)
		}
	})
	if most != 2100 {
		t.Errorf("the greatest BillPound is %d", most)
	}
}

// P106. If BillTurn succeeds, BillTurn of it is the way-bill, and its loads are those of the way-bill in the opposite order.
func TestP106Turn(t *testing.T) {
	eachBill(t, func(t *testing.T, c coachBill) {
		turned, ok := impl.BillTurn(c.n, c.bill)
		if !ok || len(turned) != len(c.bill) {
			t.Fatalf("BillTurn gives %v and %v", turned, ok)
		}
		back, ok := impl.BillTurn(c.n, turned)
		parcelsDiffer(t, "BillTurn of it", back, ok, c.bill, true)
		loads := c.with(turned).loads(t)
		slices.Reverse(loads)
		if before := c.loads(t); !slices.Equal(loads, before) {
			t.Errorf("BillLoads is %v, and turned, in the opposite order, %v", before, loads)
		}
	})
}

// P107. If BillJoin succeeds, its loads and BillPound are the sums of both, and BillMoves is at least the sum of both.
func TestP107Join(t *testing.T) {
	joined, more := 0, 0
	eachTwoBills(t, func(t *testing.T, n int, a []impl.Parcel, b []impl.Parcel) {
		both, ok := impl.BillJoin(n, a, b)
		if !ok {
			return
		}
		joined++
		c := coachBill{"joined", n, both}
		if want := addedNumbers(t, c.with(a).loads(t), c.with(b).loads(t)); !slices.Equal(c.loads(t), want) {
			t.Errorf("BillLoads is %v, want %v", c.loads(t), want)
		}
		if pound := impl.BillPound(n, both); pound != impl.BillPound(n, a)+impl.BillPound(n, b) {
			t.Errorf("BillPound is %d", pound)
		}
		least := impl.BillMoves(n, a) + impl.BillMoves(n, b)
		moves := impl.BillMoves(n, both)
		if moves < least {
			t.Errorf("BillMoves is %d, want at least %d", moves, least)
		}
		more += min(1, moves-least)
	})
	if joined < 300 || more < 100 {
		t.Errorf("%d way-bills were joined, %d of them with more moves", joined, more)
	}
}
