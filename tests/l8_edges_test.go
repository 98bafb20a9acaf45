package tests

import (
	"slices"
	"testing"

	"loop.example/mailcoaches/impl"
)

func TestConstantsOfTolls(t *testing.T) {
	if impl.GatesMax != 10 || impl.MileMax != 999 {
		t.Errorf("the constants are %d and %d", impl.GatesMax, impl.MileMax)
	}
}

func TestListsThatAreGates(t *testing.T) {
	for _, c := range allGates() {
		if !impl.GatesValid(c.gates) {
			t.Errorf("%s: GatesValid does not hold for %v", c.name, c.gates)
		}
	}
}

// checkNoAdd checks that a gate cannot be added.
func checkNoAdd(t *testing.T, gates []impl.Gate, g impl.Gate) {
	t.Helper()
	if longer, ok := impl.GatesAdd(gates, g); ok || len(longer) > 0 {
		t.Errorf("GatesAdd of %v to %v gives %v and %v", g, gates, longer, ok)
	}
}

// checkNoDrop checks that there is no such gate.
func checkNoDrop(t *testing.T, gates []impl.Gate, k int) {
	t.Helper()
	if fewer, ok := impl.GatesDrop(gates, k); ok || len(fewer) > 0 {
		t.Errorf("GatesDrop of %d of %v gives %v and %v", k, gates, fewer, ok)
	}
}

// checkNoLater checks that gates cannot be moved so far.
func checkNoLater(t *testing.T, gates []impl.Gate, k int) {
	t.Helper()
	if later, ok := impl.GatesLater(gates, k); ok || len(later) > 0 {
		t.Errorf("GatesLater of %v by %d gives %v and %v", gates, k, later, ok)
	}
}

// checkNonePassed checks that a coach passes no gates.
func checkNonePassed(t *testing.T, gates []impl.Gate, from int, to int) {
	t.Helper()
	if passed := impl.GatesPassed(gates, from, to); len(passed) > 0 {
		t.Errorf("GatesPassed of %v from %d to %d gives %v", gates, from, to, passed)
	}
}

// checkNotPaid checks that a list is no payments.
func checkNotPaid(t *testing.T, c tollRide, paid []int) {
	t.Helper()
	if c.valid(paid) {
		t.Errorf("%s: TollValid of %v holds", c.name, paid)
	}
	if sum := c.sum(paid); sum != -1 {
		t.Errorf("%s: TollSum of %v is %d", c.name, paid, sum)
	}
}

// checkNoToll checks that there are no payments at all, as the list are no gates or a number is not in its range.
func checkNoToll(t *testing.T, c tollRide) {
	t.Helper()
	for _, paid := range [][]int{nil, {0}, {0, 1}, {0, 1, 2, 3, 4, 5}, {-1}, ascending(len(c.gates))} {
		checkNotPaid(t, c, paid)
	}
	if must, ok := c.must(); ok || len(must) > 0 {
		t.Errorf("%s: TollMust gives %v and %v", c.name, must, ok)
	}
	if least := c.least(); least != -1 {
		t.Errorf("%s: TollLeast is %d", c.name, least)
	}
	if best, ok := c.best(); ok || len(best) > 0 {
		t.Errorf("%s: TollBest gives %v and %v", c.name, best, ok)
	}
	if each, ok := c.each(); ok || len(each) > 0 {
		t.Errorf("%s: TollEach gives %v and %v", c.name, each, ok)
	}
}

func TestListsThatAreNoGates(t *testing.T) {
	for _, c := range noGates() {
		if impl.GatesValid(c.gates) {
			t.Errorf("%s: GatesValid holds", c.name)
		}
		for _, g := range append(byGate(0, 0, 1, 5, 0, 1, 25, 1, 5, 999, 3, 99), c.gates[0]) {
			checkNoAdd(t, c.gates, g)
		}
		for _, k := range append(farNumbers(), -1, 0, 1, 2, len(c.gates)-1, len(c.gates)) {
			checkNoDrop(t, c.gates, k)
		}
		for _, k := range append(farNumbers(), -1, 0, 1, 2, -999, 999) {
			checkNoLater(t, c.gates, k)
		}
		for _, ends := range [][2]int{{0, wholeRoad}, {0, 1}, {5, 6}, {0, 0}, {-1, 1001}} {
			checkNonePassed(t, c.gates, ends[0], ends[1])
			for _, free := range []int{0, 50, 999, -1} {
				checkNoToll(t, tollRide{c, free, ends[0], ends[1]})
			}
		}
		for _, trust := range append(noTrusts(), 0, 1, 2, 3) {
			if list := impl.GatesTrust(c.gates, trust); len(list) > 0 {
				t.Errorf("%s: GatesTrust of %d gives %v", c.name, trust, list)
			}
		}
	}
}

func TestGateAtLimits(t *testing.T) {
	for _, mile := range append(farNumbers(), -2, -1, 0, 1, 500, 998, 999, 1000, 1001) {
		for trust := -2; trust <= 6; trust++ {
			for _, toll := range append(farNumbers(), -1, 0, 1, 2, 98, 99, 100, 101) {
				g := impl.Gate{Mile: mile, Trust: trust, Toll: toll}
				fits := 0 <= mile && mile <= 999 && 0 <= trust && trust <= 3 && 1 <= toll && toll <= 99
				if got := impl.GatesValid([]impl.Gate{g}); got != fits {
					t.Errorf("GatesValid of %v: got %v", g, got)
				}
				got, ok := impl.GatesAdd(nil, g)
				if ok != fits || ok && !slices.Equal(got, []impl.Gate{g}) || !ok && len(got) > 0 {
					t.Errorf("GatesAdd of %v to none: got %v and %v", g, got, ok)
				}
			}
		}
	}
}

func TestNumberOfGates(t *testing.T) {
	for number := range 14 {
		gates := gatesEvery(number, 3, 5, []int{1, 2}, []int{9})
		if got := impl.GatesValid(gates); got != (number <= 10) {
			t.Errorf("GatesValid of %d gates: got %v", number, got)
		}
		least := -1
		if number <= 10 {
			least = 9 * number
		}
		if got := impl.TollLeast(gates, 0, 0, wholeRoad); got != least {
			t.Errorf("TollLeast of %d gates: got %d", number, got)
		}
	}
}

func TestNoGatesAtAll(t *testing.T) {
	for _, gates := range [][]impl.Gate{nil, {}} {
		for _, k := range append(farNumbers(), -1, 0, 1) {
			checkNoDrop(t, gates, k)
		}
		for _, k := range append(farNumbers(), -1000, -1, 0, 1, 999, 1000, 123456) {
			later, ok := impl.GatesLater(gates, k)
			checkGates(t, "GatesLater of no gates", later, ok, nil)
		}
		for trust := -1; trust < 5; trust++ {
			if list := impl.GatesTrust(gates, trust); len(list) > 0 {
				t.Errorf("GatesTrust of no gates gives %v", list)
			}
		}
		for _, free := range []int{0, 1, 999} {
			for _, ends := range [][2]int{{0, 1000}, {0, 0}, {1000, 1000}, {1000, 0}, {5, 6}} {
				c := tollRide{gatedRoad{"no gates", gates}, free, ends[0], ends[1]}
				checkNonePassed(t, gates, c.from, c.to)
				checkKnownToll(t, knownToll{c, []int{}, []int{}, []int{0, 0, 0, 0}})
				checkNotPaid(t, c, []int{0})
			}
		}
	}
}

func TestOneGate(t *testing.T) {
	for _, mile := range []int{0, 1, 500, 998, 999} {
		for trust := range 4 {
			c := gatedRoad{"one gate", []impl.Gate{{Mile: mile, Trust: trust, Toll: 99}}}
			each := make([]int, 4)
			each[trust] = 99
			for _, free := range []int{0, 999} {
				checkKnownToll(t, knownToll{tollRide{c, free, 0, 1000}, []int{0}, []int{0}, each})
				checkKnownToll(t, knownToll{tollRide{c, free, mile, mile + 1}, []int{0}, []int{0}, each})
				checkKnownToll(t, knownToll{tollRide{c, free, 0, mile}, []int{}, []int{}, make([]int, 4)})
				checkKnownToll(t, knownToll{tollRide{c, free, mile + 1, 1000}, []int{}, []int{}, make([]int, 4)})
			}
			fewer, ok := impl.GatesDrop(c.gates, 0)
			checkGates(t, "GatesDrop of the only gate", fewer, ok, nil)
			checkNoDrop(t, c.gates, 1)
			checkNoDrop(t, c.gates, -1)
		}
	}
}

func TestGatesAtTheEndsOfAWay(t *testing.T) {
	gates := byGate(0, 0, 1, 20, 1, 2, 30, 0, 3, 999, 2, 4)
	for _, c := range []struct {
		from int
		to   int
		want []int
	}{
		{0, 1000, []int{0, 1, 2, 3}}, {0, 999, []int{0, 1, 2}}, {1, 1000, []int{1, 2, 3}}, {0, 1, []int{0}}, {0, 0, nil}, {999, 1000, []int{3}}, {999, 999, nil}, {1000, 1000, nil},
		{20, 30, []int{1}}, {20, 31, []int{1, 2}}, {21, 31, []int{2}}, {19, 20, nil}, {19, 21, []int{1}}, {20, 21, []int{1}}, {21, 30, nil}, {30, 31, []int{2}}, {31, 999, nil}, {31, 1000, []int{3}},
		{1000, 0, nil}, {30, 20, nil}, {31, 30, nil}, {21, 20, nil}, {1000, 999, nil}, {1, 0, nil}, {20, 20, nil},
	} {
		if got := impl.GatesPassed(gates, c.from, c.to); !slices.Equal(got, c.want) {
			t.Errorf("GatesPassed from %d to %d: got %v, want %v", c.from, c.to, got, c.want)
		}
		ride := tollRide{gatedRoad{"ends", gates}, 0, c.from, c.to}
		got, ok := ride.must()
		numbersDiffer(t, "TollMust", got, ok, c.want)
		if least := ride.least(); least != ride.tolls(c.want) {
			t.Errorf("TollLeast from %d to %d is %d", c.from, c.to, least)
		}
		if !ride.valid(c.want) {
			t.Errorf("TollValid from %d to %d of %v does not hold", c.from, c.to, c.want)
		}
	}
}

func TestEndsOutOfRange(t *testing.T) {
	for _, road := range []gatedRoad{{"plain", plainGates()}, {"one at mile 0", byGate(0, 0, 1)}, {"one at MileMax", byGate(999, 3, 99)}, {"ten", tenGates()}, {"none", nil}} {
		for _, end := range noEnds() {
			for _, other := range append(noEnds(), 0, 1, 500, 999, 1000) {
				for _, ends := range [][2]int{{end, other}, {other, end}} {
					checkNonePassed(t, road.gates, ends[0], ends[1])
					for _, free := range []int{0, 999, -1} {
						checkNoToll(t, tollRide{road, free, ends[0], ends[1]})
					}
				}
			}
		}
	}
}

func TestFreeMilesOutOfRange(t *testing.T) {
	for _, road := range []gatedRoad{{"plain", plainGates()}, {"one at mile 0", byGate(0, 0, 1)}, {"ten", tenGates()}, {"none", nil}} {
		for _, free := range noFrees() {
			for _, ends := range [][2]int{{0, 1000}, {0, 0}, {40, 41}, {1000, 0}, {-1, 1000}, {0, 1001}} {
				checkNoToll(t, tollRide{road, free, ends[0], ends[1]})
			}
		}
		for _, free := range []int{0, 1, 998, 999} {
			c := tollRide{road, free, 0, 1000}
			if _, ok := c.must(); !ok || c.least() < 0 || !c.valid(c.passed()) {
				t.Errorf("%s with %d free miles: TollMust fails", road.name, free)
			}
		}
	}
}

func TestListsThatAreNoPayments(t *testing.T) {
	// The coach passes the gates 1 to 4, and must pay at 1 and 2, and at 3 or 4.
	c := tollRide{gatedRoad{"payments", byGate(0, 0, 1, 10, 1, 1, 20, 0, 1, 30, 1, 1, 70, 1, 1, 90, 1, 1)}, 50, 5, 80}
	for _, paid := range [][]int{{1, 2, 4}, {1, 2, 3}, {1, 2, 3, 4}} {
		if sum := c.sum(paid); !c.valid(paid) || sum != len(paid) {
			t.Errorf("TollValid of %v is %v, and TollSum %d", paid, c.valid(paid), sum)
		}
	}
	lists := [][]int{
		nil, {}, {1}, {2}, {4}, {1, 2}, {1, 4}, {2, 4}, {1, 3, 4}, {2, 3, 4},
		{0, 1, 2, 4}, {0}, {0, 1}, {1, 2, 4, 5}, {1, 2, 3, 4, 5}, {0, 1, 2, 3, 4, 5}, {0, 1, 2, 3, 4}, {5},
		{1, 1, 2, 4}, {1, 2, 2, 4}, {1, 2, 4, 4}, {1, 1, 2, 2, 3, 3, 4, 4}, {1, 2, 4, 1, 2, 4}, {1, 2, 3, 3},
		{2, 1, 4}, {1, 4, 2}, {4, 2, 1}, {4, 3, 2, 1}, {2, 4, 1}, {1, 3, 2, 4}, {1, 2, 4, 3}, {3, 2, 1},
		{-1, 1, 2, 4}, {1, 2, 4, 6}, {1, 2, 4, 10}, {-1}, {6}, {1, -1, 2, 4}, {1, 2, -2, 4}, {1, 2, 4, -1},
		slices.Repeat([]int{1, 2, 4}, 1000), slices.Repeat([]int{1}, 5000), ascending(11), ascending(5000),
	}
	for _, far := range farNumbers() {
		lists = append(lists, []int{far}, []int{far, 1, 2, 4}, []int{1, 2, 4, far}, []int{1, far, 2, 4}, []int{1, 2, far})
	}
	for _, paid := range lists {
		checkNotPaid(t, c, paid)
	}
}

func TestChangedPayments(t *testing.T) {
	s := &numbers{state: 233}
	eachToll(t, func(t *testing.T, c tollRide) {
		for _, paid := range paymentsOf(s, c) {
			for _, other := range append(farNumbers(), -1, len(c.gates), 10, 11) {
				checkNotPaid(t, c, append(slices.Clone(paid), other))
				checkNotPaid(t, c, append([]int{other}, paid...))
			}
			for i, k := range paid {
				checkNotPaid(t, c, slices.Insert(slices.Clone(paid), i, k))
				checkNotPaid(t, c, append(slices.Clone(paid), k))
			}
			for i := range len(paid) - 1 {
				swapped := slices.Clone(paid)
				swapped[i], swapped[i+1] = swapped[i+1], swapped[i]
				checkNotPaid(t, c, swapped)
			}
			for k, g := range c.gates {
				if g.Mile < c.from || g.Mile >= c.to {
					more := append(slices.Clone(paid), k)
					slices.Sort(more)
					checkNotPaid(t, c, more)
				}
			}
		}
	})
}

func TestPlacesOfAddedGates(t *testing.T) {
	gates := byGate(10, 0, 1, 20, 1, 2, 30, 0, 3)
	for _, c := range []struct {
		mile  int
		place int
	}{{0, 0}, {9, 0}, {11, 1}, {15, 1}, {19, 1}, {21, 2}, {29, 2}, {31, 3}, {999, 3}} {
		g := impl.Gate{Mile: c.mile, Trust: 3, Toll: 9}
		longer, ok := impl.GatesAdd(gates, g)
		checkGates(t, "GatesAdd", longer, ok, slices.Insert(slices.Clone(gates), c.place, g))
	}
	for _, mile := range append(farNumbers(), -1, 10, 20, 30, 1000) {
		checkNoAdd(t, gates, impl.Gate{Mile: mile, Trust: 3, Toll: 9})
		checkNoAdd(t, gates, impl.Gate{Mile: mile, Trust: 0, Toll: 1})
	}
	checkNoAdd(t, gates, gates[0])
	for _, g := range noSingleGates() {
		checkNoAdd(t, gates, g)
		checkNoAdd(t, nil, g)
	}
}

func TestGatesAddedToTheLimit(t *testing.T) {
	// Each one is ahead of, between or behind the others.
	gates, miles := []impl.Gate{}, []int{500, 999, 0, 250, 750, 1, 998, 499, 501, 100}
	for i, mile := range miles {
		longer, ok := impl.GatesAdd(gates, impl.Gate{Mile: mile, Trust: i % 4, Toll: i + 1})
		if !ok || len(longer) != i+1 {
			t.Fatalf("GatesAdd at the mile %d gives %v and %v", mile, longer, ok)
		}
		gates = longer
	}
	want := byGate(0, 2, 3, 1, 1, 6, 100, 1, 10, 250, 3, 4, 499, 3, 8, 500, 0, 1, 501, 0, 9, 750, 0, 5, 998, 2, 7, 999, 1, 2)
	checkGates(t, "GatesAdd to GatesMax gates", gates, true, want)
	for _, mile := range []int{2, 300, 600, 997, 500, 0, 999} {
		checkNoAdd(t, gates, impl.Gate{Mile: mile, Trust: 0, Toll: 1})
	}
	nine, _ := impl.GatesDrop(gates, 4)
	again, ok := impl.GatesAdd(nine, impl.Gate{Mile: 600, Trust: 0, Toll: 1})
	if !ok || len(again) != 10 || indexOfMile(again, 600) != 6 {
		t.Errorf("GatesAdd to nine gates gives %v and %v", again, ok)
	}
}

func TestDroppedGates(t *testing.T) {
	gates := tenGates()
	for k := range 10 {
		fewer, ok := impl.GatesDrop(gates, k)
		checkGates(t, "GatesDrop", fewer, ok, slices.Concat(gates[:k], gates[k+1:]))
	}
	for _, k := range append(farNumbers(), -10, -2, -1, 10, 11, 100) {
		checkNoDrop(t, gates, k)
		checkNoDrop(t, plainGates(), k)
	}
	checkNoDrop(t, plainGates(), 6)
	checkNoDrop(t, plainGates(), 7)
}

func TestGatesOfTrusts(t *testing.T) {
	for trust, want := range [][]int{{0, 2, 3}, {1, 4}, nil, {5}} {
		if got := impl.GatesTrust(plainGates(), trust); !slices.Equal(got, want) {
			t.Errorf("GatesTrust of %d: got %v, want %v", trust, got, want)
		}
	}
	for _, trust := range noTrusts() {
		for _, gates := range [][]impl.Gate{plainGates(), tenGates(), nil} {
			if got := impl.GatesTrust(gates, trust); len(got) > 0 {
				t.Errorf("GatesTrust of %d: got %v", trust, got)
			}
		}
	}
}

func TestTrustsWithoutGates(t *testing.T) {
	for _, c := range []struct {
		gates []impl.Gate
		want  []int
	}{
		{byGate(5, 0, 7), []int{7, 0, 0, 0}},
		{byGate(5, 3, 7), []int{0, 0, 0, 7}},
		{byGate(5, 1, 7, 6, 2, 8), []int{0, 7, 8, 0}},
		{byGate(5, 2, 7, 6, 2, 8, 300, 2, 9), []int{0, 0, 16, 0}},
		{byGate(5, 3, 1, 6, 2, 2, 7, 1, 3, 8, 0, 4), []int{4, 3, 2, 1}},
		{nil, []int{0, 0, 0, 0}},
	} {
		got, ok := impl.TollEach(c.gates, 10, 0, wholeRoad)
		numbersDiffer(t, "TollEach", got, ok, c.want)
		// A trust of which the coach passes no gate is like one without gates.
		got, ok = impl.TollEach(c.gates, 10, 500, wholeRoad)
		numbersDiffer(t, "TollEach behind all gates", got, ok, []int{0, 0, 0, 0})
	}
}

func TestLaterGatesAtLimits(t *testing.T) {
	gates := byGate(40, 2, 3, 41, 1, 99, 960, 3, 1)
	for _, c := range []struct {
		k    int
		want []impl.Gate
	}{
		{0, gates},
		{1, byGate(41, 2, 3, 42, 1, 99, 961, 3, 1)},
		{-1, byGate(39, 2, 3, 40, 1, 99, 959, 3, 1)},
		{-40, byGate(0, 2, 3, 1, 1, 99, 920, 3, 1)},
		{39, byGate(79, 2, 3, 80, 1, 99, 999, 3, 1)},
	} {
		later, ok := impl.GatesLater(gates, c.k)
		checkGates(t, "GatesLater", later, ok, c.want)
	}
	for _, k := range append(farNumbers(), -1000, -999, -42, -41, 40, 41, 999, 1000) {
		checkNoLater(t, gates, k)
	}
	whole := byGate(0, 0, 1, 999, 0, 1)
	for _, k := range append(farNumbers(), -999, -1, 1, 999) {
		checkNoLater(t, whole, k)
	}
	for mile := range 1000 {
		later, ok := impl.GatesLater(byGate(mile, 1, 5), 999-mile)
		checkGates(t, "GatesLater to MileMax", later, ok, byGate(999, 1, 5))
		later, ok = impl.GatesLater(byGate(mile, 1, 5), -mile)
		checkGates(t, "GatesLater to mile 0", later, ok, byGate(0, 1, 5))
		for _, far := range append(farNumbers(), 1<<63-1-mile, -1<<63+mile, -mile-1, 1000-mile) {
			checkNoLater(t, byGate(mile, 1, 5), far)
		}
	}
}
