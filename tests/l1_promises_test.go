package tests

import (
	"slices"
	"testing"

	"loop.example/mailcoaches/impl"
)

// P1. If RoadsDirect is not -1, it is the same for both towns exchanged, RoadsFar is at most it, and RoadsAdd of a road between them fails.
func TestP1Direct(t *testing.T) {
	eachPair(t, func(t *testing.T, m roadMap, a int, b int) {
		direct := impl.RoadsDirect(m.n, m.roads, a, b)
		if direct == -1 {
			return
		}
		if back := impl.RoadsDirect(m.n, m.roads, b, a); back != direct {
			t.Errorf("RoadsDirect %d %d: %d, but back %d", a, b, direct, back)
		}
		if far := impl.RoadsFar(m.n, m.roads, a, b); far < 0 || far > direct {
			t.Errorf("RoadsFar %d %d: %d, but a road of %d", a, b, far, direct)
		}
		for _, miles := range []int{1, direct, impl.MilesMax} {
			if roads, ok := impl.RoadsAdd(m.n, m.roads, impl.Road{A: min(a, b), B: max(a, b), Miles: miles}); ok || len(roads) > 0 {
				t.Errorf("RoadsAdd of a second road %d %d gives %v", a, b, roads)
			}
		}
	})
}

// P2. If RoadsAdd succeeds, RoadsClose of it leads back, RoadsFar of its towns is at most its Miles, between any two towns with a way before it is not greater than before, and RoadsLength is greater by its Miles.
func TestP2Add(t *testing.T) {
	eachPair(t, func(t *testing.T, m roadMap, a int, b int) {
		r := impl.Road{A: a, B: b, Miles: 1 + (a*13+b*5)%7}
		longer, ok := impl.RoadsAdd(m.n, m.roads, r)
		room := a < b && len(m.roads) < impl.RoadsMax && impl.RoadsDirect(m.n, m.roads, a, b) == -1
		if ok != room {
			t.Fatalf("RoadsAdd %v: got %v, want %v", r, ok, room)
		}
		if !ok {
			return
		}
		if !slices.Equal(longer, append(slices.Clone(m.roads), r)) {
			t.Errorf("RoadsAdd %v gives %v", r, longer)
		}
		if back, ok := impl.RoadsClose(m.n, longer, a, b); !ok || !slices.Equal(back, m.roads) {
			t.Errorf("RoadsClose %d %d leads to %v and %v", a, b, back, ok)
		}
		if far := impl.RoadsFar(m.n, longer, a, b); far < 1 || far > r.Miles {
			t.Errorf("RoadsFar %d %d: %d with a road of %d", a, b, far, r.Miles)
		}
		if impl.RoadsLength(m.n, longer) != impl.RoadsLength(m.n, m.roads)+r.Miles {
			t.Errorf("RoadsLength with %v: %d", r, impl.RoadsLength(m.n, longer))
		}
		noneFarther(t, m.n, m.roads, longer)
	})
}

// noneFarther checks that with more roads no towns are farther from each other.
func noneFarther(t *testing.T, n int, fewer []impl.Road, more []impl.Road) {
	t.Helper()
	for a := range n {
		for b := range n {
			before, now := impl.RoadsFar(n, fewer, a, b), impl.RoadsFar(n, more, a, b)
			if before != -1 && (now == -1 || now > before) {
				t.Errorf("RoadsFar %d %d: %d with fewer roads, %d with more", a, b, before, now)
			}
		}
	}
}

// P3. If RoadsClose succeeds, RoadsDirect of both towns is -1, RoadsFar is not less than before, or -1, and adding the road leads to the same roads but for their order.
func TestP3Close(t *testing.T) {
	eachMap(t, func(t *testing.T, m roadMap) {
		for k, r := range m.roads {
			fewer, ok := impl.RoadsClose(m.n, m.roads, r.A, r.B)
			if !ok || !slices.Equal(fewer, withoutRoad(m, k).roads) {
				t.Errorf("RoadsClose %v gives %v and %v", r, fewer, ok)
			}
			if other, ok := impl.RoadsClose(m.n, m.roads, r.B, r.A); !ok || !slices.Equal(other, fewer) {
				t.Errorf("RoadsClose %v with the towns exchanged gives %v and %v", r, other, ok)
			}
			if impl.RoadsDirect(m.n, fewer, r.A, r.B) != -1 || impl.RoadsDirect(m.n, fewer, r.B, r.A) != -1 {
				t.Errorf("there is still a road %v", r)
			}
			noneFarther(t, m.n, fewer, m.roads)
			again, ok := impl.RoadsAdd(m.n, fewer, r)
			if !ok || !slices.Equal(again, append(withoutRoad(m, k).roads, r)) {
				t.Errorf("RoadsAdd of the closed road %v gives %v and %v", r, again, ok)
			}
		}
	})
}

// P3. RoadsClose fails if there is no road.
func TestP3CloseNone(t *testing.T) {
	eachPair(t, func(t *testing.T, m roadMap, a int, b int) {
		fewer, ok := impl.RoadsClose(m.n, m.roads, a, b)
		if ok != (modelMiles(m.roads, a, b) != -1) || !ok && len(fewer) > 0 {
			t.Errorf("RoadsClose %d %d gives %v and %v", a, b, fewer, ok)
		}
	})
}

// P4. If WayLength is not -1, it is at least RoadsFar of its ends, the same for the way back, and that of both parts of the way, which meet in a town.
func TestP4WayLength(t *testing.T) {
	s := &numbers{state: 11}
	lengths := 0
	eachMap(t, func(t *testing.T, m roadMap) {
		for range 20 {
			way := mixedWay(s, m)
			length := impl.WayLength(m.n, m.roads, way)
			if length == -1 {
				continue
			}
			lengths++
			if far := impl.RoadsFar(m.n, m.roads, way[0], way[len(way)-1]); far == -1 || length < far {
				t.Errorf("WayLength of %v is %d, but RoadsFar %d", way, length, far)
			}
			back := slices.Clone(way)
			slices.Reverse(back)
			if impl.WayLength(m.n, m.roads, back) != length {
				t.Errorf("WayLength of %v is %d, but not back", way, length)
			}
			for k := range way {
				if impl.WayLength(m.n, m.roads, way[:k+1])+impl.WayLength(m.n, m.roads, way[k:]) != length {
					t.Errorf("WayLength of %v is not that of its parts at %d", way, k)
				}
			}
		}
	})
	if lengths < 1000 {
		t.Errorf("only %d ways have a length", lengths)
	}
}

// P5. If RoadsFar is not -1, it is the same for both towns exchanged, 0 exactly for a town and itself, and at most that over any third town to which there is a way.
func TestP5Far(t *testing.T) {
	eachPair(t, func(t *testing.T, m roadMap, a int, b int) {
		far := impl.RoadsFar(m.n, m.roads, a, b)
		if (far == 0) != (a == b) {
			t.Errorf("RoadsFar %d %d is %d", a, b, far)
		}
		if back := impl.RoadsFar(m.n, m.roads, b, a); back != far {
			t.Errorf("RoadsFar %d %d is %d, but back %d", a, b, far, back)
		}
		for c := range m.n {
			first, second := impl.RoadsFar(m.n, m.roads, a, c), impl.RoadsFar(m.n, m.roads, c, b)
			if first != -1 && second != -1 && (far == -1 || far > first+second) {
				t.Errorf("RoadsFar %d %d is %d, but over %d %d and %d", a, b, far, c, first, second)
			}
		}
	})
}

// P6. If RoadsWay succeeds, WayLength of it is RoadsFar, it begins and ends at both towns, visits no town twice, and from its second town on it is RoadsWay.
func TestP6Way(t *testing.T) {
	eachPair(t, func(t *testing.T, m roadMap, a int, b int) {
		way, ok := impl.RoadsWay(m.n, m.roads, a, b)
		far := impl.RoadsFar(m.n, m.roads, a, b)
		if ok != (far != -1) || !ok && len(way) > 0 {
			t.Errorf("RoadsWay %d %d gives %v and %v, but RoadsFar is %d", a, b, way, ok, far)
		}
		if !ok {
			return
		}
		if len(way) == 0 || way[0] != a || way[len(way)-1] != b || impl.WayLength(m.n, m.roads, way) != far {
			t.Fatalf("RoadsWay %d %d is %v, but RoadsFar %d", a, b, way, far)
		}
		towns := slices.Sorted(slices.Values(way))
		if len(slices.Compact(towns)) != len(way) {
			t.Errorf("RoadsWay %d %d visits a town twice: %v", a, b, way)
		}
		if len(way) == 1 {
			return
		}
		if rest, ok := impl.RoadsWay(m.n, m.roads, way[1], b); !ok || !slices.Equal(rest, way[1:]) {
			t.Errorf("RoadsWay %d %d is %v, but further on %v", a, b, way, rest)
		}
	})
}

// P7. If RoadsMany is not -1 for different towns, it is the sum of those of all towns to which a road leads and from which the distance is less by it; it is the same for both exchanged.
func TestP7Many(t *testing.T) {
	eachPair(t, func(t *testing.T, m roadMap, a int, b int) {
		many, far := impl.RoadsMany(m.n, m.roads, a, b), impl.RoadsFar(m.n, m.roads, a, b)
		if (many == -1) != (far == -1) || many == 0 || a == b && many != 1 {
			t.Errorf("RoadsMany %d %d is %d, but RoadsFar %d", a, b, many, far)
		}
		if back := impl.RoadsMany(m.n, m.roads, b, a); back != many {
			t.Errorf("RoadsMany %d %d is %d, but back %d", a, b, many, back)
		}
		if many == -1 || a == b {
			return
		}
		sum := 0
		for c := range m.n {
			direct := impl.RoadsDirect(m.n, m.roads, a, c)
			if direct != -1 && impl.RoadsFar(m.n, m.roads, c, b) == far-direct {
				sum += impl.RoadsMany(m.n, m.roads, c, b)
			}
		}
		if sum != many {
			t.Errorf("RoadsMany %d %d is %d, but over the next towns %d", a, b, many, sum)
		}
	})
}

// P8. If RoadsWhole holds, RoadsFar of any two towns is not -1, there are at least as many roads as towns less 1, and it holds with a further road, and without one that is not needed.
func TestP8Whole(t *testing.T) {
	eachMap(t, func(t *testing.T, m roadMap) {
		gaps := 0
		for a := range m.n {
			for b := range m.n {
				if impl.RoadsFar(m.n, m.roads, a, b) == -1 {
					gaps++
				}
			}
		}
		whole := impl.RoadsWhole(m.n, m.roads)
		if whole != (gaps == 0) || whole && len(m.roads) < m.n-1 {
			t.Errorf("RoadsWhole is %v with %d roads, and there is no way between %d pairs of towns", whole, len(m.roads), gaps)
		}
		if whole {
			stillWhole(t, m)
		}
	})
}

// stillWhole checks that RoadsWhole holds with any further road, and without a road exactly if it is not needed.
func stillWhole(t *testing.T, m roadMap) {
	t.Helper()
	for b := range m.n {
		for a := range b {
			more, ok := impl.RoadsAdd(m.n, m.roads, impl.Road{A: a, B: b, Miles: impl.MilesMax})
			if ok && !impl.RoadsWhole(m.n, more) {
				t.Errorf("RoadsWhole does not hold with a road %d %d", a, b)
			}
		}
	}
	needed := impl.RoadsNeeded(m.n, m.roads)
	for k, r := range m.roads {
		fewer, _ := impl.RoadsClose(m.n, m.roads, r.A, r.B)
		if impl.RoadsWhole(m.n, fewer) == slices.Contains(needed, k) {
			t.Errorf("RoadsNeeded is %v, but without %d RoadsWhole is %v", needed, k, impl.RoadsWhole(m.n, fewer))
		}
	}
}

// P9. If RoadsMiddle succeeds, its greatest distance is the number, no other town has a lesser one, none ahead of it as little a one, and twice the number is at least any distance.
func TestP9Middle(t *testing.T) {
	eachMap(t, func(t *testing.T, m roadMap) {
		middle, least, ok := impl.RoadsMiddle(m.n, m.roads)
		if ok != impl.RoadsWhole(m.n, m.roads) || !ok && (middle != 0 || least != 0) {
			t.Errorf("RoadsMiddle gives %d, %d and %v", middle, least, ok)
		}
		if !ok {
			return
		}
		for a := range m.n {
			most := 0
			for b := range m.n {
				most = max(most, impl.RoadsFar(m.n, m.roads, a, b))
			}
			if a == middle && most != least || a < middle && most <= least || most < least || most > 2*least {
				t.Errorf("RoadsMiddle is %d and %d, but the greatest distance of %d is %d", middle, least, a, most)
			}
		}
	})
}

// P10. If RoadsNeeded is not empty, without one of its roads there is no way between its towns, RoadsMany of these is 1, and if RoadsNet succeeds, it has all of them.
func TestP10Needed(t *testing.T) {
	eachMap(t, func(t *testing.T, m roadMap) {
		needed := impl.RoadsNeeded(m.n, m.roads)
		net, whole := impl.RoadsNet(m.n, m.roads)
		if !slices.IsSorted(needed) {
			t.Errorf("RoadsNeeded is %v", needed)
		}
		for k, r := range m.roads {
			fewer := withoutRoad(m, k).roads
			gone := impl.RoadsFar(m.n, fewer, r.A, r.B) == -1
			if gone != slices.Contains(needed, k) {
				t.Errorf("RoadsNeeded is %v, but without %d there is no way: %v", needed, k, gone)
			}
			if gone && impl.RoadsMany(m.n, m.roads, r.A, r.B) != 1 {
				t.Errorf("RoadsMany of the needed road %v is %d", r, impl.RoadsMany(m.n, m.roads, r.A, r.B))
			}
			if gone && whole && !slices.Contains(net, k) {
				t.Errorf("RoadsNet is %v without the needed road %d", net, k)
			}
		}
	})
}

// P11. If RoadsNet succeeds, it has a road less than there are towns, all of its roads are needed there, and each other road is at least as long as each road on the way between its towns over the net.
func TestP11Net(t *testing.T) {
	eachMap(t, func(t *testing.T, m roadMap) {
		net, ok := impl.RoadsNet(m.n, m.roads)
		if ok != impl.RoadsWhole(m.n, m.roads) || !ok && len(net) > 0 {
			t.Errorf("RoadsNet gives %v and %v", net, ok)
		}
		if !ok {
			return
		}
		taken := []impl.Road{}
		for _, k := range net {
			taken = append(taken, m.roads[k])
		}
		if len(net) != m.n-1 || !slices.IsSorted(net) || len(impl.RoadsNeeded(m.n, taken)) != len(taken) {
			t.Errorf("RoadsNet is %v", net)
		}
		for k, r := range m.roads {
			way, ok := impl.RoadsWay(m.n, taken, r.A, r.B)
			if !ok {
				t.Fatalf("over RoadsNet %v there is no way for the road %d", net, k)
			}
			for i := 1; i < len(way); i++ {
				if r.Miles < impl.RoadsDirect(m.n, taken, way[i-1], way[i]) {
					t.Errorf("RoadsNet is %v with the way %v, but the road %d is shorter than one on it", net, way, k)
				}
			}
		}
	})
}

// P12. If RoadsLength is not -1, it is the sum of WayLength of all roads, and at least that of RoadsNet, if this succeeds.
func TestP12Length(t *testing.T) {
	eachMap(t, func(t *testing.T, m roadMap) {
		sum := 0
		for _, r := range m.roads {
			sum += impl.WayLength(m.n, m.roads, []int{r.A, r.B})
		}
		length := impl.RoadsLength(m.n, m.roads)
		if length != sum {
			t.Errorf("RoadsLength is %d, but the sum of all roads %d", length, sum)
		}
		net, _ := impl.RoadsNet(m.n, m.roads)
		taken := []impl.Road{}
		for _, k := range net {
			taken = append(taken, m.roads[k])
		}
		if least := impl.RoadsLength(m.n, taken); least == -1 || length < least {
			t.Errorf("RoadsLength is %d, but that of RoadsNet %d", length, least)
		}
	})
}
