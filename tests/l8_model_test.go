package tests

import (
	"slices"
	"testing"

	"loop.example/mailcoaches/impl"
)

// The model goes along the road mile by mile, and tries all sets of gates at which a coach can pay. A set is a number with a bit for each index of a gate.

// modelGates reports whether a list are gates.
func modelGates(gates []impl.Gate) bool {
	miles := []int{}
	for _, g := range gates {
		if g.Mile < 0 || g.Mile > 999 || g.Trust < 0 || g.Trust > 3 || g.Toll < 1 || g.Toll > 99 || slices.Contains(miles, g.Mile) {
			return false
		}
		miles = append(miles, g.Mile)
	}
	return len(gates) <= 10 && slices.IsSorted(miles)
}

// modelAdded returns the gates with one more, in the order in which a coach comes by them, and whether these are gates.
func modelAdded(gates []impl.Gate, g impl.Gate) ([]impl.Gate, bool) {
	list := append(slices.Clone(gates), g)
	slices.SortFunc(list, func(a impl.Gate, b impl.Gate) int { return a.Mile - b.Mile })
	return list, modelGates(list)
}

// modelPassed returns the indexes of the gates by which a coach comes from one mile to another one.
func modelPassed(gates []impl.Gate, from int, to int) []int {
	passed := []int{}
	for mile := from; mile < to; mile++ {
		if k := slices.IndexFunc(gates, func(g impl.Gate) bool { return g.Mile == mile }); k >= 0 {
			passed = append(passed, k)
		}
	}
	return passed
}

// modelFrees returns the set of gates that a ticket frees of which the toll is paid at one of them.
func modelFrees(gates []impl.Gate, free int, paid int) int {
	set := 0
	for k, g := range gates {
		if apart := g.Mile - gates[paid].Mile; g.Trust == gates[paid].Trust && 0 < apart && apart <= free {
			set |= 1 << k
		}
	}
	return set
}

// modelFreed returns the set of gates that are freed when the toll is paid at those of a set.
func modelFreed(gates []impl.Gate, free int, paid int) int {
	freed := 0
	for _, k := range indexesIn(paid) {
		freed |= modelFrees(gates, free, k)
	}
	return freed
}

// indexesIn returns the indexes in a set, ascending.
func indexesIn(set int) []int {
	list := []int{}
	for k := range 10 {
		if set>>k&1 == 1 {
			list = append(list, k)
		}
	}
	return list
}

// setOf returns the set of some indexes.
func setOf(indexes []int) int {
	set := 0
	for _, k := range indexes {
		set |= 1 << k
	}
	return set
}

// modelTolls returns the sum of the tolls of the gates in a set.
func modelTolls(gates []impl.Gate, set int) int {
	sum := 0
	for k, g := range gates {
		sum += g.Toll * (set >> k & 1)
	}
	return sum
}

// modelPayments returns all sets that are payments of a coach.
func modelPayments(c tollRide) []int {
	passed := setOf(modelPassed(c.gates, c.from, c.to))
	frees := []int{}
	for k := range c.gates {
		frees = append(frees, modelFrees(c.gates, c.free, k))
	}
	sets := []int{}
	for set := range 1 << len(c.gates) {
		done := set
		for k := range c.gates {
			if set>>k&1 == 1 {
				done |= frees[k]
			}
		}
		if set&^passed == 0 && passed&^done == 0 {
			sets = append(sets, set)
		}
	}
	return sets
}

// modelMust returns the payments of which none is at a gate that is freed, of which there is one.
func modelMust(t *testing.T, c tollRide) int {
	t.Helper()
	found := []int{}
	for _, set := range modelPayments(c) {
		if set&modelFreed(c.gates, c.free, set) == 0 {
			found = append(found, set)
		}
	}
	if len(found) != 1 {
		t.Fatalf("the model has %v as the payments of a coach that pays where it must", found)
	}
	return found[0]
}

// modelCheapest returns all payments with the least sum, and this sum.
func modelCheapest(c tollRide) ([]int, int) {
	cheapest, least := []int{}, 1000
	for _, set := range modelPayments(c) {
		sum := modelTolls(c.gates, set)
		if sum < least {
			cheapest, least = cheapest[:0], sum
		}
		if sum == least {
			cheapest = append(cheapest, set)
		}
	}
	return cheapest, least
}

// modelBestOf returns of some sets the one that pays at the first gate at which it differs from any other.
func modelBestOf(sets []int) int {
	best := sets[0]
	for _, set := range sets[1:] {
		for k := range 10 {
			if set>>k&1 != best>>k&1 {
				if set>>k&1 == 1 {
					best = set
				}
				break
			}
		}
	}
	return best
}

// modelAlone returns a coach past the gates of one trust alone.
func modelAlone(c tollRide, trust int) tollRide {
	alone := []impl.Gate{}
	for _, g := range c.gates {
		if g.Trust == trust {
			alone = append(alone, g)
		}
	}
	return tollRide{gatedRoad{c.name, alone}, c.free, c.from, c.to}
}

// must, least, best, each, sum and valid ask the program.
func (c tollRide) must() ([]int, bool)     { return impl.TollMust(c.gates, c.free, c.from, c.to) }
func (c tollRide) least() int              { return impl.TollLeast(c.gates, c.free, c.from, c.to) }
func (c tollRide) best() ([]int, bool)     { return impl.TollBest(c.gates, c.free, c.from, c.to) }
func (c tollRide) each() ([]int, bool)     { return impl.TollEach(c.gates, c.free, c.from, c.to) }
func (c tollRide) sum(paid []int) int      { return impl.TollSum(c.gates, c.free, c.from, c.to, paid) }
func (c tollRide) valid(paid []int) bool   { return impl.TollValid(c.gates, c.free, c.from, c.to, paid) }
func (c tollRide) passed() []int           { return impl.GatesPassed(c.gates, c.from, c.to) }
func (c tollRide) tolls(gates []int) int   { return modelTolls(c.gates, setOf(gates)) }
func (c tollRide) withFree(f int) tollRide { return tollRide{c.gatedRoad, f, c.from, c.to} }

func TestModelOfGates(t *testing.T) {
	for _, c := range slices.Concat(allGates(), noGates()) {
		if got, want := impl.GatesValid(c.gates), modelGates(c.gates); got != want {
			t.Errorf("%s: GatesValid of %v: got %v", c.name, c.gates, got)
		}
	}
}

func TestModelOfAddedGates(t *testing.T) {
	s, added, failed := &numbers{state: 197}, 0, 0
	eachGates(t, func(t *testing.T, c gatedRoad) {
		for _, mile := range append(endsNear(c.gates), -1, 300) {
			g := impl.Gate{Mile: mile, Trust: s.below(4), Toll: 1 + s.below(99)}
			want, fits := modelAdded(c.gates, g)
			got, ok := impl.GatesAdd(c.gates, g)
			if ok != fits || ok && !slices.Equal(got, want) || !ok && len(got) > 0 {
				t.Errorf("GatesAdd of %v: got %v and %v, want %v and %v", g, got, ok, want, fits)
			}
			if ok {
				added++
			} else {
				failed++
			}
		}
	})
	if added < 1000 || failed < 1000 {
		t.Errorf("%d gates were added, and %d not", added, failed)
	}
}

func TestModelOfDroppedGates(t *testing.T) {
	eachGates(t, func(t *testing.T, c gatedRoad) {
		for k := -2; k < 12; k++ {
			want := []impl.Gate{}
			for i, g := range c.gates {
				if i != k {
					want = append(want, g)
				}
			}
			fits := len(want) < len(c.gates)
			got, ok := impl.GatesDrop(c.gates, k)
			if ok != fits || ok && !slices.Equal(got, want) || !ok && len(got) > 0 {
				t.Errorf("GatesDrop of %d: got %v and %v", k, got, ok)
			}
		}
	})
}

func TestModelOfPassedGates(t *testing.T) {
	eachGates(t, func(t *testing.T, c gatedRoad) {
		ends := endsNear(c.gates)
		for i, from := range ends {
			for _, to := range []int{ends[(5*i+1)%len(ends)], ends[(3*i+2)%len(ends)], ends[len(ends)-1-i], min(from+1, wholeRoad), wholeRoad} {
				if got, want := impl.GatesPassed(c.gates, from, to), modelPassed(c.gates, from, to); !slices.Equal(got, want) {
					t.Errorf("GatesPassed from %d to %d: got %v, want %v", from, to, got, want)
				}
			}
		}
	})
}

func TestModelOfTrusts(t *testing.T) {
	eachGates(t, func(t *testing.T, c gatedRoad) {
		for trust := -1; trust <= 4; trust++ {
			want := []int{}
			for k, g := range c.gates {
				if g.Trust == trust {
					want = append(want, k)
				}
			}
			if got := impl.GatesTrust(c.gates, trust); !slices.Equal(got, want) {
				t.Errorf("GatesTrust of %d: got %v, want %v", trust, got, want)
			}
		}
	})
}

func TestModelOfPayments(t *testing.T) {
	s, valid, invalid := &numbers{state: 199}, 0, 0
	eachToll(t, func(t *testing.T, c tollRide) {
		payments := modelPayments(c)
		sets := slices.Concat(someOf(s, payments, 4), someOf(s, ascending(1<<len(c.gates)), 12))
		for _, set := range sets {
			paid, want := indexesIn(set), -1
			fits := slices.Contains(payments, set)
			if fits {
				want, valid = modelTolls(c.gates, set), valid+1
			} else {
				invalid++
			}
			if got := c.valid(paid); got != fits {
				t.Errorf("TollValid of %v: got %v", paid, got)
			}
			if got := c.sum(paid); got != want {
				t.Errorf("TollSum of %v: got %d, want %d", paid, got, want)
			}
		}
	})
	if valid < 10000 || invalid < 10000 {
		t.Errorf("%d lists were payments, and %d not", valid, invalid)
	}
}

func TestModelOfAllSmallPayments(t *testing.T) {
	for _, road := range smallGates() {
		for free := range 6 {
			for _, ends := range [][2]int{{0, wholeRoad}, {0, 4}, {1, 5}, {2, 4}} {
				c := tollRide{road, free, ends[0], ends[1]}
				payments := modelPayments(c)
				for set := range 16 {
					if got := c.valid(indexesIn(set)); got != slices.Contains(payments, set) {
						t.Fatalf("TollValid of %v with %v, %d free miles, from %d to %d: got %v", indexesIn(set), c.gates, c.free, c.from, c.to, got)
					}
				}
			}
		}
	}
}

func TestModelOfMust(t *testing.T) {
	eachToll(t, func(t *testing.T, c tollRide) {
		got, ok := c.must()
		numbersDiffer(t, "TollMust", got, ok, indexesIn(modelMust(t, c)))
	})
}

// tollKinds are how many coaches of a kind there were.
type tollKinds struct {
	freedAndPaid int
	cheaper      int
	several      int
	oftenerPaid  int
}

// count counts a coach of which the cheapest payments are known.
func (k *tollKinds) count(c tollRide, cheapest []int, best int, must int) {
	if best&modelFreed(c.gates, c.free, best) != 0 {
		k.freedAndPaid++
	}
	if modelTolls(c.gates, best) < modelTolls(c.gates, must) {
		k.cheaper++
	}
	if len(cheapest) > 1 {
		k.several++
	}
	times := func(set int) int { return len(indexesIn(set)) }
	if slices.ContainsFunc(cheapest, func(set int) bool { return times(set) < times(best) }) {
		k.oftenerPaid++
	}
}

func TestModelOfBestPayments(t *testing.T) {
	kinds := tollKinds{}
	eachToll(t, func(t *testing.T, c tollRide) {
		cheapest, least := modelCheapest(c)
		best := modelBestOf(cheapest)
		kinds.count(c, cheapest, best, modelMust(t, c))
		if got := c.least(); got != least {
			t.Errorf("TollLeast: got %d, want %d", got, least)
		}
		got, ok := c.best()
		numbersDiffer(t, "TollBest", got, ok, indexesIn(best))
	})
	if kinds.freedAndPaid < 500 || kinds.cheaper < 300 || kinds.several < 200 || kinds.oftenerPaid < 20 {
		t.Errorf("too few coaches of a kind: %+v", kinds)
	}
}

func TestModelOfEachTrust(t *testing.T) {
	trusts := make([]int, 5)
	eachToll(t, func(t *testing.T, c tollRide) {
		want, with := []int{}, 0
		for trust := range 4 {
			_, least := modelCheapest(modelAlone(c, trust))
			want, with = append(want, least), with+min(least, 1)
		}
		trusts[with]++
		got, ok := c.each()
		numbersDiffer(t, "TollEach", got, ok, want)
	})
	if slices.Min(trusts) < 20 {
		t.Errorf("the numbers of trusts that are passed: %v", trusts)
	}
}

func TestModelOfLaterGates(t *testing.T) {
	later, failed := 0, 0
	eachGates(t, func(t *testing.T, c gatedRoad) {
		shifts := []int{0, 1, -1, 50, -50, 999, -999, 1000, -1000}
		for _, g := range c.gates {
			shifts = append(shifts, -g.Mile-1, -g.Mile, 999-g.Mile, 1000-g.Mile)
		}
		for _, k := range shifts {
			want := []impl.Gate{}
			for _, g := range c.gates {
				want = append(want, impl.Gate{Mile: g.Mile + k, Trust: g.Trust, Toll: g.Toll})
			}
			fits := modelGates(want)
			got, ok := impl.GatesLater(c.gates, k)
			if ok != fits || ok && !slices.Equal(got, want) || !ok && len(got) > 0 {
				t.Errorf("GatesLater by %d: got %v and %v, want %v and %v", k, got, ok, want, fits)
			}
			if ok {
				later++
			} else {
				failed++
			}
		}
	})
	if later < 1000 || failed < 1000 {
		t.Errorf("%d times gates were later, and %d times not", later, failed)
	}
}
