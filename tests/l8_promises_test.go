package tests

import (
	"slices"
	"testing"

	"loop.example/mailcoaches/impl"
)

// indexOfMile returns the index of the gate at a mile.
func indexOfMile(gates []impl.Gate, mile int) int {
	return slices.IndexFunc(gates, func(g impl.Gate) bool { return g.Mile == mile })
}

// checkGates checks that a function gives a list of gates.
func checkGates(t *testing.T, name string, got []impl.Gate, ok bool, want []impl.Gate) {
	t.Helper()
	if !ok || !slices.Equal(got, want) {
		t.Errorf("%s gives %v and %v, want %v", name, got, ok, want)
	}
}

// P85. If GatesAdd succeeds, GatesDrop of the gate leads back, and if no other gate is of its trust, TollLeast of the whole road is greater by its toll, with any free miles.
func TestP85Add(t *testing.T) {
	s, added, alone := &numbers{state: 211}, 0, 0
	eachGates(t, func(t *testing.T, c gatedRoad) {
		for trust := range 4 {
			ends := endsNear(c.gates)
			g := impl.Gate{Mile: ends[s.below(len(ends))], Trust: trust, Toll: 1 + s.below(99)}
			longer, ok := impl.GatesAdd(c.gates, g)
			if !ok {
				continue
			}
			added++
			back, ok := impl.GatesDrop(longer, indexOfMile(longer, g.Mile))
			checkGates(t, "GatesDrop of the gate added", back, ok, c.gates)
			if len(impl.GatesTrust(longer, trust)) > 1 {
				continue
			}
			alone++
			for _, free := range freesNear(longer) {
				before, after := impl.TollLeast(c.gates, free, 0, wholeRoad), impl.TollLeast(longer, free, 0, wholeRoad)
				if before < 0 || after != before+g.Toll {
					t.Errorf("with %d free miles TollLeast is %d, and with %v %d", free, before, g, after)
				}
			}
		}
	})
	if added < 500 || alone < 200 {
		t.Errorf("%d gates were added, %d of them the only one of their trust", added, alone)
	}
}

// P86. If GatesDrop succeeds, GatesAdd of the gate leads back, and there is one gate less.
func TestP86Drop(t *testing.T) {
	dropped := 0
	eachGates(t, func(t *testing.T, c gatedRoad) {
		for k, g := range c.gates {
			fewer, ok := impl.GatesDrop(c.gates, k)
			if !ok || len(fewer) != len(c.gates)-1 || !impl.GatesValid(fewer) || indexOfMile(fewer, g.Mile) >= 0 {
				t.Fatalf("GatesDrop of %d gives %v and %v", k, fewer, ok)
			}
			dropped++
			back, ok := impl.GatesAdd(fewer, g)
			checkGates(t, "GatesAdd of the gate dropped", back, ok, c.gates)
		}
	})
	if dropped < 2000 {
		t.Errorf("only %d gates were dropped", dropped)
	}
}

// P87. If GatesPassed is not empty, its gates are ascending and on the way, and those up to any mile of the way and from it on are all of them.
func TestP87Passed(t *testing.T) {
	some := 0
	eachToll(t, func(t *testing.T, c tollRide) {
		passed := c.passed()
		if len(passed) == 0 {
			return
		}
		some++
		for i, k := range passed {
			if k < 0 || k >= len(c.gates) || i > 0 && passed[i-1] >= k {
				t.Fatalf("GatesPassed is %v", passed)
			}
			if mile := c.gates[k].Mile; mile < c.from || mile >= c.to {
				t.Errorf("GatesPassed is %v, with a gate at the mile %d", passed, mile)
			}
		}
		for _, mile := range endsNear(c.gates) {
			if mile < c.from || mile > c.to {
				continue
			}
			first, second := impl.GatesPassed(c.gates, c.from, mile), impl.GatesPassed(c.gates, mile, c.to)
			if !slices.Equal(slices.Concat(first, second), passed) {
				t.Errorf("GatesPassed is %v, but up to the mile %d %v, and from it on %v", passed, mile, first, second)
			}
		}
	})
	if some < 1000 {
		t.Errorf("only %d coaches passed gates", some)
	}
}

// P87 with the whole road: all gates are passed there, so none of those parts is empty for want of a way.
func TestP87PassedOnTheWholeRoad(t *testing.T) {
	eachGates(t, func(t *testing.T, c gatedRoad) {
		if passed := impl.GatesPassed(c.gates, 0, wholeRoad); !slices.Equal(passed, ascending(len(c.gates))) {
			t.Errorf("GatesPassed of the whole road is %v", passed)
		}
	})
}

// P88. If GatesTrust is not empty, its gates are those of the trust, and the gates of all four trusts together are all gates.
func TestP88Trust(t *testing.T) {
	eachGates(t, func(t *testing.T, c gatedRoad) {
		all := []int{}
		for trust := range 4 {
			list := impl.GatesTrust(c.gates, trust)
			for i, k := range list {
				if k < 0 || k >= len(c.gates) || c.gates[k].Trust != trust || i > 0 && list[i-1] >= k {
					t.Fatalf("GatesTrust of %d is %v", trust, list)
				}
			}
			all = append(all, list...)
		}
		slices.Sort(all)
		if !slices.Equal(all, ascending(len(c.gates))) {
			t.Errorf("the gates of all trusts are %v", all)
		}
	})
}

// paymentsOf are several payments of a coach: those that the program knows, and others.
func paymentsOf(s *numbers, c tollRide) [][]int {
	must, _ := c.must()
	best, _ := c.best()
	lists := [][]int{must, best, c.passed()}
	for _, set := range someOf(s, modelPayments(c), 3) {
		lists = append(lists, indexesIn(set))
	}
	return lists
}

// P89. If TollValid holds, it holds with all gates that are passed paid, with more free miles, if they are in range, and the first gate of each trust that is passed is paid.
func TestP89Valid(t *testing.T) {
	s := &numbers{state: 223}
	eachToll(t, func(t *testing.T, c tollRide) {
		if !c.valid(c.passed()) {
			t.Errorf("TollValid does not hold with all gates paid: %v", c.passed())
		}
		for _, paid := range paymentsOf(s, c) {
			if !c.valid(paid) {
				t.Fatalf("TollValid does not hold with %v", paid)
			}
			for _, free := range append(freesNear(c.gates), c.free+1) {
				if free > c.free && free <= impl.MileMax && !c.withFree(free).valid(paid) {
					t.Errorf("TollValid holds with %v, but with %d free miles it does not", paid, free)
				}
			}
			trusts := []int{}
			for _, k := range c.passed() {
				trust := c.gates[k].Trust
				if !slices.Contains(trusts, trust) && !slices.Contains(paid, k) {
					t.Errorf("TollValid holds with %v, but the gate %d is the first one of its trust", paid, k)
				}
				trusts = append(trusts, trust)
			}
		}
	})
}

// P89 the other way round: without the first gate of a trust TollValid does not hold.
func TestP89WithoutTheFirstGates(t *testing.T) {
	eachToll(t, func(t *testing.T, c tollRide) {
		passed, trusts := c.passed(), []int{}
		for i, k := range passed {
			if trust := c.gates[k].Trust; !slices.Contains(trusts, trust) {
				trusts = append(trusts, trust)
				if paid := slices.Delete(slices.Clone(passed), i, i+1); c.valid(paid) {
					t.Errorf("TollValid holds with %v", paid)
				}
			}
		}
	})
}

// P90. If TollSum is not -1, it is at least TollLeast and at most the sum of the tolls of all gates that are passed, and so is that of TollMust.
func TestP90Sum(t *testing.T) {
	s, between := &numbers{state: 227}, 0
	eachToll(t, func(t *testing.T, c tollRide) {
		least, most := c.least(), c.tolls(c.passed())
		if sum := c.sum(c.passed()); sum != most {
			t.Errorf("TollSum of all gates that are passed is %d, want %d", sum, most)
		}
		for _, paid := range paymentsOf(s, c) {
			sum := c.sum(paid)
			if sum < least || sum > most || sum != c.tolls(paid) {
				t.Errorf("TollSum of %v is %d, TollLeast %d, and all tolls are %d", paid, sum, least, most)
			}
			if least < sum && sum < most {
				between++
			}
		}
	})
	if between < 500 {
		t.Errorf("only %d sums were between", between)
	}
}

// P91. If TollMust succeeds, it is payments, each of its gates is not freed without its own payment, and without free miles it is all gates that are passed.
func TestP91Must(t *testing.T) {
	eachToll(t, func(t *testing.T, c tollRide) {
		must, ok := c.must()
		if !ok || !c.valid(must) {
			t.Fatalf("TollMust gives %v and %v", must, ok)
		}
		for i := range must {
			if fewer := slices.Delete(slices.Clone(must), i, i+1); c.valid(fewer) {
				t.Errorf("TollMust gives %v, but %v are payments, too", must, fewer)
			}
			// The payments behind the gate play no part in it.
			if setOf(must[i:i+1])&modelFreed(c.gates, c.free, setOf(must[:i])) != 0 {
				t.Errorf("TollMust gives %v, but the gate %d is freed", must, must[i])
			}
		}
		all, ok := c.withFree(0).must()
		numbersDiffer(t, "TollMust without free miles", all, ok, c.passed())
	})
}

// P92. If TollLeast is not -1, with more free miles, if they are in range, it is not greater, for the first part of a way it is not greater, and for both parts of a way together it is at least the whole.
func TestP92Least(t *testing.T) {
	lessFree, lessFirst, moreParts := 0, 0, 0
	eachToll(t, func(t *testing.T, c tollRide) {
		least := c.least()
		if least < 0 || (least == 0) != (len(c.passed()) == 0) {
			t.Fatalf("TollLeast is %d", least)
		}
		for _, free := range append(freesNear(c.gates), c.free+1) {
			if free <= c.free || free > impl.MileMax {
				continue
			}
			other := c.withFree(free).least()
			if other < 0 || other > least {
				t.Errorf("TollLeast is %d, but with %d free miles %d", least, free, other)
			}
			lessFree += min(1, least-other)
		}
		for _, mile := range endsNear(c.gates) {
			if mile < c.from || mile > c.to {
				continue
			}
			first, second := impl.TollLeast(c.gates, c.free, c.from, mile), impl.TollLeast(c.gates, c.free, mile, c.to)
			if first < 0 || first > least || second < 0 || first+second < least {
				t.Errorf("TollLeast is %d, up to the mile %d it is %d, and from it on %d", least, mile, first, second)
			}
			lessFirst += min(1, least-first)
			moreParts += min(1, first+second-least)
		}
	})
	if lessFree < 1000 || lessFirst < 1000 || moreParts < 1000 {
		t.Errorf("TollLeast was less with more free miles %d times, less for the first part %d times, and more for both parts %d times", lessFree, lessFirst, moreParts)
	}
}

// P93. If TollBest succeeds, TollSum of it is TollLeast, and with any of its payments left out it is no payments.
func TestP93Best(t *testing.T) {
	eachToll(t, func(t *testing.T, c tollRide) {
		best, ok := c.best()
		if sum := c.sum(best); !ok || sum != c.least() || sum < 0 {
			t.Fatalf("TollBest gives %v and %v, TollSum of it is %d, and TollLeast %d", best, ok, sum, c.least())
		}
		for i := range best {
			if fewer := slices.Delete(slices.Clone(best), i, i+1); c.valid(fewer) {
				t.Errorf("TollBest gives %v, but %v are payments, too", best, fewer)
			}
		}
	})
}

// P94. If TollEach succeeds, its sum is TollLeast, each number is at most the tolls of the gates of the trust that are passed, and 0 exactly if there are none.
func TestP94Each(t *testing.T) {
	eachToll(t, func(t *testing.T, c tollRide) {
		each, ok := c.each()
		if !ok || len(each) != 4 || sumOf(each) != c.least() {
			t.Fatalf("TollEach gives %v and %v, and TollLeast is %d", each, ok, c.least())
		}
		for trust, least := range each {
			all := c.tolls(c.passed()) - c.tolls(slices.DeleteFunc(c.passed(), func(k int) bool { return c.gates[k].Trust == trust }))
			if least < 0 || least > all || (least == 0) != (all == 0) {
				t.Errorf("TollEach gives %v, but the tolls of the trust %d are %d", each, trust, all)
			}
		}
	})
}

// P95. If GatesLater succeeds, GatesLater by the opposite leads back, and TollLeast of the whole road with any free miles is the same.
func TestP95Later(t *testing.T) {
	s, moved := &numbers{state: 229}, 0
	eachGates(t, func(t *testing.T, c gatedRoad) {
		shifts := []int{0, 1, -1, 7, -7, 300, -300, 999, -999}
		if len(c.gates) > 0 {
			first, last := c.gates[0].Mile, c.gates[len(c.gates)-1].Mile
			shifts = append(shifts, -first, 999-last, s.below(1000-last+first)-first)
		}
		for _, k := range shifts {
			later, ok := impl.GatesLater(c.gates, k)
			if !ok {
				continue
			}
			if len(later) > 0 && k != 0 {
				moved++
			}
			back, ok := impl.GatesLater(later, -k)
			checkGates(t, "GatesLater by the opposite", back, ok, c.gates)
			for _, free := range someOf(s, freesNear(c.gates), 6) {
				before, after := impl.TollLeast(c.gates, free, 0, wholeRoad), impl.TollLeast(later, free, 0, wholeRoad)
				if before < 0 || before != after {
					t.Errorf("with %d free miles TollLeast is %d, and later by %d %d", free, before, k, after)
				}
			}
		}
	})
	if moved < 1000 {
		t.Errorf("only %d times gates were moved", moved)
	}
}
