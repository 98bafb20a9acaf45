package tests

import (
	"slices"
	"testing"

	"loop.example/mailcoaches/impl"
)

// knownToll is a coach with what it pays where it must and what is best, and the least sum of each trust.
type knownToll struct {
	tollRide
	must []int
	best []int
	each []int
}

// knownOnRoad is one over the whole road.
func knownOnRoad(name string, free int, gates []impl.Gate, must []int, best []int, each ...int) knownToll {
	return knownToll{tollRide{gatedRoad{name, gates}, free, 0, wholeRoad}, must, best, each}
}

// cheapByTurns are gates of one trust that are dear and cheap by turns.
func cheapByTurns() []impl.Gate {
	return gatesEvery(6, 0, 10, []int{0}, []int{9, 1})
}

// freedAndNotPaid are coaches for which it is best not to pay at a gate that is freed.
func freedAndNotPaid() []knownToll {
	pair, chain := byGate(100, 2, 7, 150, 2, 4), cheapByTurns()
	return []knownToll{
		knownOnRoad("exactly the free miles farther on", 50, pair, []int{0}, []int{0}, 0, 0, 7, 0),
		knownOnRoad("one mile more than the free miles", 49, pair, []int{0, 1}, []int{0, 1}, 0, 0, 11, 0),
		knownOnRoad("cheap gates by turns with dear ones, many free miles", 20, chain, []int{0, 3}, []int{0, 3}, 10, 0, 0, 0),
		knownOnRoad("each second gate is freed", 10, gatesEvery(10, 20, 10, []int{0}, []int{4}), []int{0, 2, 4, 6, 8}, []int{0, 2, 4, 6, 8}, 20, 0, 0, 0),
		knownOnRoad("no free miles", 0, byGate(0, 1, 3, 1, 1, 4, 2, 1, 5), []int{0, 1, 2}, []int{0, 1, 2}, 0, 12, 0, 0),
		knownOnRoad("one free mile", 1, byGate(0, 1, 3, 1, 1, 4, 2, 1, 5), []int{0, 2}, []int{0, 1}, 0, 7, 0, 0),
		knownOnRoad("two free miles", 2, byGate(0, 1, 3, 1, 1, 4, 2, 1, 5), []int{0}, []int{0}, 0, 3, 0, 0),
		knownOnRoad("MileMax free miles over the whole road", 999, byGate(0, 3, 5, 999, 3, 6), []int{0}, []int{0}, 0, 0, 0, 5),
		knownOnRoad("one free mile less than the whole road", 998, byGate(0, 3, 5, 999, 3, 6), []int{0, 1}, []int{0, 1}, 0, 0, 0, 11),
		knownOnRoad("freed by a ticket of the gate ahead of the last one", 50, byGate(0, 0, 5, 60, 0, 5, 110, 0, 5), []int{0, 1}, []int{0, 1}, 10, 0, 0, 0),
		knownOnRoad("not freed by a ticket of another trust", 50, byGate(0, 0, 5, 10, 1, 5, 20, 2, 5, 30, 3, 5), []int{0, 1, 2, 3}, []int{0, 1, 2, 3}, 5, 5, 5, 5),
		knownOnRoad("a gate of another trust between takes no ticket away", 20, byGate(0, 0, 5, 10, 1, 5, 20, 0, 5), []int{0, 1}, []int{0, 1}, 5, 5, 0, 0),
		knownOnRoad("a freed gate gives no ticket unless it is paid", 10, byGate(0, 0, 5, 10, 0, 9, 20, 0, 9), []int{0, 2}, []int{0, 1}, 14, 0, 0, 0),
		knownOnRoad("a dear gate that is freed", 10, byGate(0, 0, 5, 10, 0, 99, 20, 0, 9), []int{0, 2}, []int{0, 2}, 14, 0, 0, 0),
		knownOnRoad("a cheap gate that is freed in vain", 10, byGate(0, 0, 5, 5, 0, 1, 20, 0, 9), []int{0, 2}, []int{0, 2}, 14, 0, 0, 0),
		knownOnRoad("a cheap gate that would free no gate more", 20, byGate(0, 0, 5, 10, 0, 1, 20, 0, 9), []int{0}, []int{0}, 5, 0, 0, 0),
		knownOnRoad("a freed gate that is dearer than the one it would free", 50, byGate(0, 0, 10, 40, 0, 21, 60, 0, 20), []int{0, 2}, []int{0, 2}, 30, 0, 0, 0),
	}
}

// freedAndPaid are coaches for which it is best to pay at a gate that is freed.
func freedAndPaid() []knownToll {
	return []knownToll{
		knownOnRoad("a cheap gate that is freed", 50, byGate(0, 0, 10, 40, 0, 1, 60, 0, 20), []int{0, 2}, []int{0, 1}, 11, 0, 0, 0),
		knownOnRoad("a cheap gate that is freed just so far", 40, byGate(0, 0, 10, 40, 0, 1, 80, 0, 20), []int{0, 2}, []int{0, 1}, 11, 0, 0, 0),
		knownOnRoad("a cheap gate that is just not freed", 39, byGate(0, 0, 10, 40, 0, 1, 79, 0, 20), []int{0, 1}, []int{0, 1}, 11, 0, 0, 0),
		knownOnRoad("a cheap gate that frees one mile too few", 40, byGate(0, 0, 10, 40, 0, 1, 81, 0, 20), []int{0, 2}, []int{0, 2}, 30, 0, 0, 0),
		knownOnRoad("the second one of two freed gates is cheaper", 50, byGate(0, 0, 10, 30, 0, 3, 40, 0, 2, 60, 0, 20), []int{0, 3}, []int{0, 2}, 12, 0, 0, 0),
		knownOnRoad("the first one of two freed gates is cheaper", 50, byGate(0, 0, 10, 30, 0, 2, 40, 0, 3, 60, 0, 20), []int{0, 3}, []int{0, 1}, 12, 0, 0, 0),
		knownOnRoad("the first one of two freed gates is cheaper, but does not free enough", 50, byGate(0, 0, 10, 30, 0, 2, 40, 0, 3, 60, 0, 20, 90, 0, 20), []int{0, 3}, []int{0, 2}, 13, 0, 0, 0),
		knownOnRoad("both freed gates", 50, byGate(0, 0, 10, 30, 0, 2, 50, 0, 2, 70, 0, 20, 100, 0, 20), []int{0, 3}, []int{0, 2}, 12, 0, 0, 0),
		knownOnRoad("two freed gates, one by the ticket of the other", 20, byGate(0, 0, 9, 20, 0, 1, 30, 0, 50, 40, 0, 1, 60, 0, 30), []int{0, 2, 4}, []int{0, 1, 3}, 11, 0, 0, 0),
		knownOnRoad("cheap gates by turns with dear ones, few free miles", 10, cheapByTurns(), []int{0, 2, 4}, []int{0, 1, 3, 5}, 12, 0, 0, 0),
		knownOnRoad("a cheap gate that is freed, of two trusts", 30, byGate(0, 0, 10, 5, 3, 10, 30, 0, 1, 35, 3, 90, 40, 0, 9, 45, 3, 9), []int{0, 1, 4, 5}, []int{0, 1, 2, 5}, 11, 0, 0, 19),
		knownOnRoad("must pays less often, but more", 60, byGate(0, 1, 5, 50, 1, 2, 61, 1, 99, 120, 1, 2), []int{0, 2}, []int{0, 1, 3}, 0, 9, 0, 0),
		knownOnRoad("a dear payment behind several freed gates", 30, byGate(0, 2, 1, 10, 2, 4, 20, 2, 3, 30, 2, 5, 31, 2, 99), []int{0, 4}, []int{0, 2}, 0, 0, 4, 0),
		knownOnRoad("plain", 50, plainGates(), []int{0, 1, 3, 5}, []int{0, 1, 2, 5}, 11, 5, 0, 8),
		knownOnRoad("by turns", 20, crossGates(), []int{0, 1, 4, 5}, []int{0, 1, 2, 5, 6}, 0, 2, 11, 0),
	}
}

// severalOfTheLeast are coaches with several payments of the least sum.
func severalOfTheLeast() []knownToll {
	return []knownToll{
		knownOnRoad("a freed gate or the one behind it", 50, byGate(0, 0, 10, 40, 0, 5, 60, 0, 5), []int{0, 2}, []int{0, 1}, 15, 0, 0, 0),
		knownOnRoad("one of two freed gates or the one behind them", 50, byGate(0, 0, 10, 40, 0, 5, 45, 0, 5, 60, 0, 5), []int{0, 3}, []int{0, 1}, 15, 0, 0, 0),
		knownOnRoad("two cheap ones or a dear one", 20, byGate(0, 0, 4, 15, 0, 2, 25, 0, 5, 35, 0, 3, 45, 0, 9), []int{0, 2}, []int{0, 1, 3}, 9, 0, 0, 0),
		knownOnRoad("a dear one or two cheap ones", 20, byGate(0, 0, 4, 15, 0, 5, 20, 0, 2, 35, 0, 5, 40, 0, 3, 50, 0, 9), []int{0, 3}, []int{0, 2, 4}, 9, 0, 0, 0),
		knownOnRoad("all tolls are equal", 10, gatesEvery(9, 20, 10, []int{3}, []int{4}), []int{0, 2, 4, 6, 8}, []int{0, 1, 3, 5, 7}, 0, 0, 0, 20),
		knownOnRoad("all tolls are equal, many free miles", 30, gatesEvery(10, 20, 10, []int{1}, []int{4}), []int{0, 4, 8}, []int{0, 2, 6}, 0, 12, 0, 0),
		knownOnRoad("two trusts", 50, byGate(0, 0, 10, 1, 1, 10, 40, 0, 5, 41, 1, 5, 60, 0, 5, 61, 1, 5), []int{0, 1, 4, 5}, []int{0, 1, 2, 3}, 15, 15, 0, 0),
		knownOnRoad("the second trust has no choice", 50, byGate(0, 0, 10, 1, 1, 10, 40, 0, 5, 60, 0, 5, 90, 1, 5), []int{0, 1, 3, 4}, []int{0, 1, 2, 4}, 15, 15, 0, 0),
	}
}

// onAPart are coaches that go over a part of the road.
func onAPart() []knownToll {
	plain := gatedRoad{"plain", plainGates()}
	return []knownToll{
		{tollRide{plain, 50, 0, 60}, []int{0, 1}, []int{0, 1}, []int{10, 5, 0, 0}},
		{tollRide{plain, 50, 0, 61}, []int{0, 1, 3}, []int{0, 1, 2}, []int{11, 5, 0, 0}},
		{tollRide{plain, 50, 1, 61}, []int{1, 2}, []int{1, 2}, []int{1, 5, 0, 0}},
		{tollRide{plain, 50, 40, 60}, []int{2}, []int{2}, []int{1, 0, 0, 0}},
		{tollRide{plain, 50, 41, 60}, []int{}, []int{}, []int{0, 0, 0, 0}},
		{tollRide{plain, 50, 60, 1000}, []int{3, 4, 5}, []int{3, 4, 5}, []int{20, 5, 0, 8}},
		{tollRide{plain, 50, 30, 90}, []int{1, 2}, []int{1, 2}, []int{1, 5, 0, 0}},
		{tollRide{plain, 44, 30, 91}, []int{1, 2, 4, 5}, []int{1, 2, 4, 5}, []int{1, 10, 0, 8}},
		{tollRide{plain, 50, 90, 91}, []int{5}, []int{5}, []int{0, 0, 0, 8}},
		{tollRide{plain, 50, 91, 1000}, []int{}, []int{}, []int{0, 0, 0, 0}},
		{tollRide{plain, 50, 60, 60}, []int{}, []int{}, []int{0, 0, 0, 0}},
		{tollRide{plain, 50, 61, 60}, []int{}, []int{}, []int{0, 0, 0, 0}},
		{tollRide{plain, 50, 1000, 0}, []int{}, []int{}, []int{0, 0, 0, 0}},
	}
}

// checkKnownToll checks what the program tells of a coach.
func checkKnownToll(t *testing.T, c knownToll) {
	t.Helper()
	name := c.name
	must, ok := c.tollRide.must()
	numbersDiffer(t, name+": TollMust", must, ok, c.must)
	best, ok := c.tollRide.best()
	numbersDiffer(t, name+": TollBest", best, ok, c.best)
	each, ok := c.tollRide.each()
	numbersDiffer(t, name+": TollEach", each, ok, c.each)
	if least := c.least(); least != sumOf(c.each) || least != c.tolls(c.best) {
		t.Errorf("%s: TollLeast is %d, want %d", name, least, sumOf(c.each))
	}
	if sum := c.sum(c.must); sum != c.tolls(c.must) {
		t.Errorf("%s: TollSum of %v is %d, want %d", name, c.must, sum, c.tolls(c.must))
	}
	if sum := c.sum(c.best); sum != c.tolls(c.best) {
		t.Errorf("%s: TollSum of %v is %d, want %d", name, c.best, sum, c.tolls(c.best))
	}
}

func TestFreedGatesThatAreNotPaid(t *testing.T) {
	for _, c := range freedAndNotPaid() {
		checkKnownToll(t, c)
	}
}

func TestFreedGatesThatArePaid(t *testing.T) {
	for _, c := range freedAndPaid() {
		checkKnownToll(t, c)
	}
}

func TestSeveralPaymentsOfTheLeastSum(t *testing.T) {
	for _, c := range severalOfTheLeast() {
		checkKnownToll(t, c)
		if cheapest, _ := modelCheapest(c.tollRide); len(cheapest) < 2 {
			t.Errorf("%s: only %v have the least sum", c.name, cheapest)
		}
	}
}

func TestPaymentsOnAPartOfTheRoad(t *testing.T) {
	for _, c := range onAPart() {
		checkKnownToll(t, c)
	}
}

// TestMustIsDearer checks that the cases with a freed gate that is paid are what their names tell, but for those in which the free miles are just too few.
func TestMustIsDearer(t *testing.T) {
	dearer := 0
	for _, c := range freedAndPaid() {
		if slices.Equal(c.must, c.best) {
			continue
		}
		dearer++
		if best := setOf(c.best); best&modelFreed(c.gates, c.free, best) == 0 {
			t.Errorf("%s: none of %v is freed", c.name, c.best)
		}
		if sum := c.sum(c.must); sum <= c.least() {
			t.Errorf("%s: TollMust pays %d, and the least is %d", c.name, sum, c.least())
		}
	}
	if dearer != len(freedAndPaid())-2 {
		t.Errorf("TollMust is dearer only %d times", dearer)
	}
}

// TestTicketsExactlySoFar checks how far a ticket frees gates of its trust and of another one, by the mile.
func TestTicketsExactlySoFar(t *testing.T) {
	for _, first := range []int{0, 1, 300, 998} {
		for _, apart := range []int{1, 2, 3, 50, 698, 699, 998, 999} {
			for _, free := range []int{0, 1, 2, 3, 4, 49, 50, 51, 697, 698, 699, 700, 997, 998, 999} {
				for trust := range 4 {
					gates := []impl.Gate{{Mile: first, Trust: 1, Toll: 20}, {Mile: first + apart, Trust: trust, Toll: 30}}
					if first+apart > 999 {
						continue
					}
					c := tollRide{gatedRoad{"two gates", gates}, free, 0, wholeRoad}
					want, freed := []int{0, 1}, trust == 1 && apart <= free
					if freed {
						want = []int{0}
					}
					got, ok := c.must()
					numbersDiffer(t, "TollMust", got, ok, want)
					if c.valid([]int{0}) != freed || !c.valid([]int{0, 1}) || c.valid([]int{1}) || c.valid(nil) {
						t.Errorf("%v with %d free miles: TollValid of the first gate alone is %v", gates, free, c.valid([]int{0}))
					}
					if least := c.least(); least != c.tolls(want) {
						t.Errorf("%v with %d free miles: TollLeast is %d", gates, free, least)
					}
				}
			}
		}
	}
}

// TestFreedGatePaidAllTheSame checks the payments of a coach that can pay at a freed gate, which has a ticket for the last gate.
func TestFreedGatePaidAllTheSame(t *testing.T) {
	for last := 51; last <= 100; last++ {
		for _, toll := range []int{1, 19, 20, 21, 99} {
			gates := byGate(0, 3, 10, 40, 3, toll, last, 3, 20)
			c := tollRide{gatedRoad{"three gates", gates}, 50, 0, wholeRoad}
			reaches := last <= 90
			for _, p := range []struct {
				paid []int
				want bool
			}{{[]int{0}, false}, {[]int{0, 1}, reaches}, {[]int{0, 2}, true}, {[]int{0, 1, 2}, true}, {[]int{1, 2}, false}, {[]int{1}, false}, {[]int{2}, false}, {[]int{}, false}} {
				want := -1
				if p.want {
					want = c.tolls(p.paid)
				}
				if got, sum := c.valid(p.paid), c.sum(p.paid); got != p.want || sum != want {
					t.Errorf("%v: TollValid of %v is %v, TollSum %d", gates, p.paid, got, sum)
				}
			}
			best := []int{0, 2}
			if reaches && toll <= 20 {
				best = []int{0, 1}
			}
			got, ok := c.best()
			numbersDiffer(t, "TollBest", got, ok, best)
			must, ok := c.must()
			numbersDiffer(t, "TollMust", must, ok, []int{0, 2})
		}
	}
}

// TestPaidInVain checks that a payment in vain is allowed, but neither what a coach must pay nor the best.
func TestPaidInVain(t *testing.T) {
	c := tollRide{gatedRoad{"in vain", byGate(10, 1, 5, 20, 1, 1, 30, 1, 6, 200, 2, 7)}, 20, 0, wholeRoad}
	for _, paid := range [][]int{{0, 1, 3}, {0, 2, 3}, {0, 1, 2, 3}} {
		if sum := c.sum(paid); !c.valid(paid) || sum != c.tolls(paid) || sum <= c.least() {
			t.Errorf("TollValid of %v is %v, TollSum %d, and TollLeast %d", paid, c.valid(paid), sum, c.least())
		}
	}
	checkKnownToll(t, knownToll{c, []int{0, 3}, []int{0, 3}, []int{0, 5, 7, 0}})
}
