package tests

import (
	"slices"
	"testing"

	"loop.example/mailcoaches/impl"
)

// noTowns are numbers that are no towns of a map of n towns.
func noTowns(n int) []int {
	return []int{-1, n, n + 1, impl.TownsMax, -1 << 63, 1<<63 - 1}
}

func TestConstantsOfRoads(t *testing.T) {
	if impl.TownsMax != 8 || impl.RoadsMax != 16 || impl.MilesMax != 99 {
		t.Errorf("TownsMax, RoadsMax and MilesMax are %d, %d and %d", impl.TownsMax, impl.RoadsMax, impl.MilesMax)
	}
}

func TestNoRoads(t *testing.T) {
	r := impl.Road{A: 1, B: 2, Miles: 5}
	for _, m := range noMaps() {
		if impl.RoadsValid(m.n, m.roads) {
			t.Errorf("%s: RoadsValid holds", m.name)
		}
		if impl.RoadsWhole(m.n, m.roads) {
			t.Errorf("%s: RoadsWhole holds", m.name)
		}
		if got := impl.RoadsLength(m.n, m.roads); got != -1 {
			t.Errorf("%s: RoadsLength is %d", m.name, got)
		}
		if got := impl.RoadsNeeded(m.n, m.roads); len(got) > 0 {
			t.Errorf("%s: RoadsNeeded is %v", m.name, got)
		}
		if got, ok := impl.RoadsNet(m.n, m.roads); ok || len(got) > 0 {
			t.Errorf("%s: RoadsNet gives %v and %v", m.name, got, ok)
		}
		if town, far, ok := impl.RoadsMiddle(m.n, m.roads); ok || town != 0 || far != 0 {
			t.Errorf("%s: RoadsMiddle gives %d, %d and %v", m.name, town, far, ok)
		}
		if got, ok := impl.RoadsAdd(m.n, m.roads, r); ok || len(got) > 0 {
			t.Errorf("%s: RoadsAdd gives %v and %v", m.name, got, ok)
		}
		for _, way := range [][]int{{0}, {0, 1}, {1, 0}, nil} {
			if got := impl.WayLength(m.n, m.roads, way); got != -1 {
				t.Errorf("%s: WayLength of %v is %d", m.name, way, got)
			}
		}
		for _, pair := range [][2]int{{0, 0}, {0, 1}, {1, 0}, {-1, -1}, {0, 8}} {
			checkNoPair(t, m, pair[0], pair[1])
		}
	}
}

// checkNoPair checks what is returned for two towns if the list are no roads, or one of the towns is none.
func checkNoPair(t *testing.T, m roadMap, a int, b int) {
	t.Helper()
	if got := impl.RoadsDirect(m.n, m.roads, a, b); got != -1 {
		t.Errorf("%s: RoadsDirect %d %d is %d", m.name, a, b, got)
	}
	if got := impl.RoadsFar(m.n, m.roads, a, b); got != -1 {
		t.Errorf("%s: RoadsFar %d %d is %d", m.name, a, b, got)
	}
	if got := impl.RoadsMany(m.n, m.roads, a, b); got != -1 {
		t.Errorf("%s: RoadsMany %d %d is %d", m.name, a, b, got)
	}
	if got, ok := impl.RoadsWay(m.n, m.roads, a, b); ok || len(got) > 0 {
		t.Errorf("%s: RoadsWay %d %d gives %v and %v", m.name, a, b, got, ok)
	}
	if got, ok := impl.RoadsClose(m.n, m.roads, a, b); ok || len(got) > 0 {
		t.Errorf("%s: RoadsClose %d %d gives %v and %v", m.name, a, b, got, ok)
	}
}

func TestNoTowns(t *testing.T) {
	for _, m := range namedMaps() {
		for _, none := range noTowns(m.n) {
			checkNoPair(t, m, none, none)
			for town := range m.n {
				checkNoPair(t, m, none, town)
				checkNoPair(t, m, town, none)
			}
			for _, way := range [][]int{{none}, {0, none}, {none, 0}, {0, none, 0}} {
				if got := impl.WayLength(m.n, m.roads, way); got != -1 {
					t.Errorf("%s: WayLength of %v is %d", m.name, way, got)
				}
			}
		}
	}
}

func TestAddInvalid(t *testing.T) {
	roads := []impl.Road{{A: 0, B: 1, Miles: 5}}
	for _, r := range []impl.Road{
		{A: 2, B: 1, Miles: 5}, {A: 1, B: 1, Miles: 5}, {A: -1, B: 2, Miles: 5}, {A: 1, B: 3, Miles: 5}, {A: 1, B: 1<<63 - 1, Miles: 5},
		{A: 1, B: 2, Miles: 0}, {A: 1, B: 2, Miles: -5}, {A: 1, B: 2, Miles: 100}, {A: 0, B: 1, Miles: 5}, {A: 0, B: 1, Miles: 6}, {A: 1, B: 0, Miles: 5}, {},
	} {
		if got, ok := impl.RoadsAdd(3, roads, r); ok || len(got) > 0 {
			t.Errorf("RoadsAdd of %v gives %v", r, got)
		}
	}
	for _, miles := range []int{1, impl.MilesMax} {
		if got, ok := impl.RoadsAdd(3, roads, impl.Road{A: 1, B: 2, Miles: miles}); !ok || len(got) != 2 {
			t.Errorf("RoadsAdd of a road of %d gives %v", miles, got)
		}
	}
}

func TestAddToLimit(t *testing.T) {
	full := sixteen(4)
	last := full[15]
	if got, ok := impl.RoadsAdd(8, full[:15], last); !ok || !slices.Equal(got, full) {
		t.Errorf("RoadsAdd of the last road gives %v and %v", got, ok)
	}
	if got, ok := impl.RoadsAdd(8, full, impl.Road{A: 0, B: 1, Miles: 4}); ok || len(got) > 0 {
		t.Errorf("RoadsAdd of a road too many gives %v", got)
	}
}

func TestOneTown(t *testing.T) {
	for _, none := range [][]impl.Road{nil, {}} {
		if !impl.RoadsValid(1, none) || !impl.RoadsWhole(1, none) || impl.RoadsLength(1, none) != 0 || len(impl.RoadsNeeded(1, none)) > 0 {
			t.Errorf("one town without roads is not whole")
		}
		if impl.RoadsFar(1, none, 0, 0) != 0 || impl.RoadsMany(1, none, 0, 0) != 1 || impl.WayLength(1, none, []int{0}) != 0 || impl.RoadsDirect(1, none, 0, 0) != -1 {
			t.Errorf("one town is not 0 miles from itself, by one way")
		}
		if way, ok := impl.RoadsWay(1, none, 0, 0); !ok || !slices.Equal(way, []int{0}) {
			t.Errorf("RoadsWay of the only town is %v and %v", way, ok)
		}
		if town, far, ok := impl.RoadsMiddle(1, none); !ok || town != 0 || far != 0 {
			t.Errorf("RoadsMiddle of one town is %d, %d and %v", town, far, ok)
		}
		if net, ok := impl.RoadsNet(1, none); !ok || len(net) > 0 {
			t.Errorf("RoadsNet of one town is %v and %v", net, ok)
		}
	}
}

func TestTownAndItself(t *testing.T) {
	for _, m := range namedMaps() {
		for a := range m.n {
			if impl.RoadsFar(m.n, m.roads, a, a) != 0 || impl.RoadsMany(m.n, m.roads, a, a) != 1 || impl.RoadsDirect(m.n, m.roads, a, a) != -1 {
				t.Errorf("%s: the town %d is not 0 miles from itself, by one way without a road", m.name, a)
			}
			if way, ok := impl.RoadsWay(m.n, m.roads, a, a); !ok || !slices.Equal(way, []int{a}) {
				t.Errorf("%s: RoadsWay of %d and itself is %v and %v", m.name, a, way, ok)
			}
			if _, ok := impl.RoadsClose(m.n, m.roads, a, a); ok {
				t.Errorf("%s: RoadsClose of %d and itself succeeds", m.name, a)
			}
			if impl.WayLength(m.n, m.roads, []int{a}) != 0 || impl.WayLength(m.n, m.roads, []int{a, a}) != -1 {
				t.Errorf("%s: the town %d alone is no way, or twice is one", m.name, a)
			}
		}
	}
}

func TestNoWayBetween(t *testing.T) {
	apart := []impl.Road{{A: 0, B: 1, Miles: 3}, {A: 2, B: 3, Miles: 4}, {A: 3, B: 4, Miles: 4}, {A: 2, B: 4, Miles: 4}}
	if !impl.RoadsValid(5, apart) || impl.RoadsWhole(5, apart) || impl.RoadsFar(5, apart, 0, 2) != -1 || impl.RoadsMany(5, apart, 4, 1) != -1 {
		t.Errorf("two parts are not told apart")
	}
	if way, ok := impl.RoadsWay(5, apart, 1, 4); ok || len(way) > 0 {
		t.Errorf("RoadsWay between two parts is %v", way)
	}
	if town, far, ok := impl.RoadsMiddle(5, apart); ok || town != 0 || far != 0 {
		t.Errorf("RoadsMiddle of two parts is %d and %d", town, far)
	}
	if net, ok := impl.RoadsNet(5, apart); ok || len(net) > 0 {
		t.Errorf("RoadsNet of two parts is %v", net)
	}
	if needed := impl.RoadsNeeded(5, apart); !slices.Equal(needed, []int{0}) || impl.RoadsLength(5, apart) != 15 {
		t.Errorf("RoadsNeeded of two parts is %v", needed)
	}
	if impl.RoadsWhole(2, nil) || impl.RoadsFar(2, nil, 0, 1) != -1 || impl.RoadsLength(8, nil) != 0 || len(impl.RoadsNeeded(8, nil)) > 0 {
		t.Errorf("towns without roads are not told apart")
	}
}

func TestWaysThatAreNone(t *testing.T) {
	roads := forked()
	for _, way := range [][]int{nil, {}, {0, 5}, {0, 1, 4, 5, 0}, {0, 1, 1, 4}, {0, 0}, {6}, {-1}, {0, 1, 6}} {
		if got := impl.WayLength(6, roads, way); got != -1 {
			t.Errorf("WayLength of %v is %d", way, got)
		}
	}
	for _, c := range []struct {
		way    []int
		length int
	}{{[]int{3}, 0}, {[]int{0, 1}, 2}, {[]int{1, 0}, 2}, {[]int{0, 1, 0, 1, 0}, 8}, {[]int{5, 4, 1, 0, 2, 3, 5}, 14}} {
		if got := impl.WayLength(6, roads, c.way); got != c.length {
			t.Errorf("WayLength of %v is %d", c.way, got)
		}
	}
}

func TestWaysOfEqualLength(t *testing.T) {
	short := []impl.Road{{A: 0, B: 2, Miles: 2}, {A: 0, B: 1, Miles: 1}, {A: 1, B: 2, Miles: 1}}
	straight := []impl.Road{{A: 0, B: 1, Miles: 2}, {A: 0, B: 2, Miles: 1}, {A: 1, B: 2, Miles: 1}}
	for _, c := range []struct {
		name  string
		n     int
		roads []impl.Road
		a, b  int
		way   []int
		many  int
	}{
		{"forked", 6, forked(), 0, 5, []int{0, 1, 4, 5}, 2},
		{"forked, from the other end", 6, forked(), 5, 0, []int{5, 3, 2, 0}, 2},
		{"more towns, but lesser ones", 3, short, 0, 2, []int{0, 1, 2}, 2},
		{"more towns, from the other end", 3, short, 2, 0, []int{2, 0}, 2},
		{"the road itself", 3, straight, 0, 1, []int{0, 1}, 2},
		{"the road itself, from the other end", 3, straight, 1, 0, []int{1, 0}, 2},
		{"layers", 8, layers(33), 0, 7, []int{0, 1, 4, 7}, 9},
		{"layers, from the other end", 8, layers(1), 7, 0, []int{7, 4, 1, 0}, 9},
		{"as many roads as can be", 8, sixteen(99), 3, 0, []int{3, 4, 0}, 4},
	} {
		// A way that depends on the order of a map would not be the same each time.
		for range 20 {
			if way, ok := impl.RoadsWay(c.n, c.roads, c.a, c.b); !ok || !slices.Equal(way, c.way) {
				t.Fatalf("%s: RoadsWay is %v and %v, want %v", c.name, way, ok, c.way)
			}
		}
		if many := impl.RoadsMany(c.n, c.roads, c.a, c.b); many != c.many {
			t.Errorf("%s: RoadsMany is %d, want %d", c.name, many, c.many)
		}
	}
}

func TestLimitsOfRoads(t *testing.T) {
	long := path(impl.TownsMax, impl.MilesMax)
	if !impl.RoadsValid(8, long) || impl.RoadsFar(8, long, 7, 0) != 693 || impl.RoadsLength(8, long) != 693 {
		t.Errorf("a path of 8 towns and roads of 99 is %d long", impl.RoadsFar(8, long, 7, 0))
	}
	if town, far, ok := impl.RoadsMiddle(8, long); !ok || town != 3 || far != 396 {
		t.Errorf("RoadsMiddle of the path is %d, %d and %v", town, far, ok)
	}
	if needed := impl.RoadsNeeded(8, long); !slices.Equal(needed, []int{0, 1, 2, 3, 4, 5, 6}) {
		t.Errorf("RoadsNeeded of the path is %v", needed)
	}
	if impl.RoadsValid(7, long) || impl.RoadsValid(9, long) {
		t.Errorf("a path of 8 towns are roads of 7 or of 9")
	}
	full := sixteen(impl.MilesMax)
	if !impl.RoadsValid(8, full) || impl.RoadsLength(8, full) != 1584 || len(impl.RoadsNeeded(8, full)) > 0 {
		t.Errorf("16 roads of 99 are %d long", impl.RoadsLength(8, full))
	}
	if net, ok := impl.RoadsNet(8, full); !ok || !slices.Equal(net, []int{0, 1, 2, 3, 4, 8, 12}) {
		t.Errorf("RoadsNet of 16 equal roads is %v", net)
	}
}

func TestNetOfEqualRoads(t *testing.T) {
	for _, c := range []struct {
		name  string
		n     int
		roads []impl.Road
		net   []int
	}{
		{"equal", 3, []impl.Road{{A: 1, B: 2, Miles: 5}, {A: 0, B: 2, Miles: 5}, {A: 0, B: 1, Miles: 5}}, []int{0, 1}},
		{"the first one longer", 3, []impl.Road{{A: 1, B: 2, Miles: 6}, {A: 0, B: 2, Miles: 5}, {A: 0, B: 1, Miles: 5}}, []int{1, 2}},
		{"the last one shorter", 3, []impl.Road{{A: 1, B: 2, Miles: 5}, {A: 0, B: 2, Miles: 5}, {A: 0, B: 1, Miles: 4}}, []int{0, 2}},
		{"square", 4, []impl.Road{{A: 2, B: 3, Miles: 1}, {A: 0, B: 3, Miles: 9}, {A: 1, B: 2, Miles: 1}, {A: 0, B: 1, Miles: 9}}, []int{0, 1, 2}},
		{"longest needed", 3, []impl.Road{{A: 0, B: 1, Miles: 99}, {A: 1, B: 2, Miles: 1}}, []int{0, 1}},
	} {
		if net, ok := impl.RoadsNet(c.n, c.roads); !ok || !slices.Equal(net, c.net) {
			t.Errorf("%s: RoadsNet is %v and %v, want %v", c.name, net, ok, c.net)
		}
	}
}

func TestMiddleOfSeveral(t *testing.T) {
	square := []impl.Road{{A: 0, B: 1, Miles: 2}, {A: 1, B: 2, Miles: 2}, {A: 2, B: 3, Miles: 2}, {A: 0, B: 3, Miles: 2}}
	if town, far, ok := impl.RoadsMiddle(4, square); !ok || town != 0 || far != 4 {
		t.Errorf("RoadsMiddle of a square is %d, %d and %v", town, far, ok)
	}
	star := []impl.Road{{A: 0, B: 2, Miles: 3}, {A: 1, B: 2, Miles: 8}, {A: 2, B: 3, Miles: 8}}
	if town, far, ok := impl.RoadsMiddle(4, star); !ok || town != 2 || far != 8 {
		t.Errorf("RoadsMiddle of a star is %d, %d and %v", town, far, ok)
	}
}
