package tests

import (
	"fmt"
	"slices"
	"testing"

	"loop.example/mailcoaches/impl"
)

// plainConnect is a coach that comes to the town 0 ahead of and leaves it behind the ordinary timetable.
func plainConnect() []impl.Stop {
	return []impl.Stop{{Town: 0, Arrive: 470, Leave: 485}, {Town: 2, Arrive: 500, Leave: 500}}
}

// crossing are two coaches that both stop in the town 0, where the first one arrives at 500 and the second one leaves some minutes later, each on the way between two other towns.
func crossing(minutes int) ([]impl.Stop, []impl.Stop) {
	a := []impl.Stop{{Town: 1, Arrive: 0, Leave: 10}, {Town: 0, Arrive: 500, Leave: 2000}, {Town: 2, Arrive: 2100, Leave: 2100}}
	b := []impl.Stop{{Town: 2, Arrive: 20, Leave: 30}, {Town: 0, Arrive: 100, Leave: 500 + minutes}, {Town: 1, Arrive: 2200, Leave: 2300}}
	return a, b
}

// crossed is a connection of such coaches.
func crossed(name string, minutes int, late int, change int, most int) connection {
	a, b := crossing(minutes)
	return connection{name, 3, a, b, 0, late, change, most}
}

// namedConnections are connections with the edge cases of the chapter.
func namedConnections() []connection {
	return []connection{
		{"plain", 3, plainStops(), plainConnect(), 0, 3, 4, 2},
		{"plain, with more towns", 8, plainStops(), plainConnect(), 0, 3, 4, 2},
		{"plain, a minute too late", 3, plainStops(), plainConnect(), 0, 4, 4, 2},
		{"in the last town of the second coach", 3, plainConnect(), plainStops(), 0, 5, 7, 3},
		{"in the first town of the first coach and the last one of the second coach", 3, plainStops(), plainConnect(), 2, 60, 30, 15},
		{"in the first town of the second coach and the last one of the first coach", 3, plainConnect(), plainStops(), 2, 0, 0, 300},
		{"of a coach and itself", 3, plainStops(), plainStops(), 1, 9, 20, 1},
		crossed("there as the coach leaves", 50, 30, 20, 0),
		crossed("there a minute ahead of it", 50, 29, 20, 0),
		crossed("there a minute behind it, not waited for", 50, 31, 20, 0),
		crossed("there a minute behind it, waited for", 50, 31, 20, 1),
		crossed("there as late as it waits", 50, 40, 25, 15),
		crossed("there a minute later than it waits", 50, 41, 25, 15),
		crossed("no time between", 0, 0, 0, 0),
		crossed("no time between, a minute late", 0, 1, 0, 0),
		crossed("no time between, a minute of change", 0, 0, 1, 0),
		crossed("a minute between", 1, 0, 0, 0),
		crossed("it has left a minute ago", -1, 0, 0, 0),
		crossed("it has left a minute ago and waits one", -1, 0, 0, 1),
		crossed("it has left long ago", -400, 0, 0, 300),
		crossed("it waits DelayMax", -300, 0, 0, 300),
		crossed("it waits DelayMax, for all of the change", 0, 0, 300, 300),
		crossed("it waits DelayMax, for all of the lateness", 0, 300, 0, 300),
		crossed("all DelayMax", 300, 300, 300, 300),
		crossed("all DelayMax, a minute too late", 299, 300, 300, 300),
		crossed("it leaves long behind all", 1000, 300, 300, 0),
	}
}

// mixedConnections are connections of coaches out of the fixed sequences of chapter 2, with numbers about which a connection is just made.
func mixedConnections() []connection {
	s := &numbers{state: 103}
	list := []connection{}
	tables := slices.Concat(namedTables(), mixedTables(60))
	for _, a := range tables {
		for _, b := range tables {
			n := max(a.n, b.n)
			for town := range n {
				i, k := townAt(a.stops, town), townAt(b.stops, town)
				if i < 0 || k < 0 {
					continue
				}
				late, change, most := justMade(s, b.stops[k].Leave-a.stops[i].Arrive)
				list = append(list, connection{fmt.Sprintf("%s and %s in %d", a.name, b.name, town), n, a.stops, b.stops, town, late, change, most})
			}
		}
	}
	return list
}

// townAt returns the index of the stop in a town, or -1.
func townAt(stops []impl.Stop, town int) int {
	return slices.IndexFunc(stops, func(s impl.Stop) bool { return s.Town == town })
}

// justMade are a lateness, a change and a waiting about as long as it takes for a coach that leaves some minutes later.
func justMade(s *numbers, minutes int) (int, int, int) {
	longest := []int{2, 20, 301}[s.below(3)]
	change, most := s.below(longest), s.below(longest)
	switch s.below(4) {
	case 0:
		most = min(300, max(0, change-minutes-1+s.below(3)))
	case 1:
		change = min(300, max(0, most+minutes-1+s.below(3)))
	case 2:
		return s.below(longest), change, most
	}
	return min(300, max(0, minutes+most-change-1+s.below(3))), change, most
}

// smallConnections are all connections with numbers of at most 3 minutes, and a second coach that leaves at most 4 minutes ahead or behind.
func smallConnections() []connection {
	list := []connection{}
	for code := range 9 * 4 * 4 * 4 {
		c := crossed(fmt.Sprintf("small %d", code), code/64-4, code%4, code/4%4, code/16%4)
		list = append(list, c)
	}
	return list
}

// allConnections are all connections on which the tests are done.
func allConnections() []connection {
	return slices.Concat(namedConnections(), mixedConnections(), smallConnections())
}

// eachConnection does a test with all connections.
func eachConnection(t *testing.T, test func(t *testing.T, c connection)) {
	t.Helper()
	for _, c := range allConnections() {
		test(t, c)
		if t.Failed() {
			t.Fatalf("connection %q: %d towns, stops %v and %v, town %d, late %d, change %d, waiting %d", c.name, c.n, c.a, c.b, c.town, c.late, c.change, c.most)
		}
	}
}

// made is ConnectMade of a connection.
func made(c connection) bool {
	return impl.ConnectMade(c.n, c.a, c.b, c.town, c.late, c.change, c.most)
}

// connectLate is ConnectLate of a connection.
func connectLate(c connection) (int, bool) {
	return impl.ConnectLate(c.n, c.a, c.b, c.town, c.late, c.change, c.most)
}

// connectMost is ConnectMost of a connection.
func connectMost(c connection) int {
	return impl.ConnectMost(c.n, c.a, c.b, c.town, c.change, c.most)
}

// withLate is a connection with another lateness.
func withLate(c connection, late int) connection {
	c.late = late
	return c
}

// withMost is a connection with another waiting.
func withMost(c connection, most int) connection {
	c.most = most
	return c
}

// withChange is a connection with another change.
func withChange(c connection, change int) connection {
	c.change = change
	return c
}

// checkConnect checks all functions of connections.
func checkConnect(t *testing.T, c connection, made bool, late int, most int) {
	t.Helper()
	if got := impl.ConnectMade(c.n, c.a, c.b, c.town, c.late, c.change, c.most); got != made {
		t.Errorf("%s: ConnectMade is %v", c.name, got)
	}
	if got, ok := connectLate(c); !ok || got != late {
		t.Errorf("%s: ConnectLate gives %d and %v, want %d", c.name, got, ok, late)
	}
	if got := connectMost(c); got != most {
		t.Errorf("%s: ConnectMost is %d, want %d", c.name, got, most)
	}
}

// TestNamedConnections has for each of the named connections whether it is made, how late the second coach leaves, and how late the first one may arrive.
func TestNamedConnections(t *testing.T) {
	wants := []struct {
		made bool
		late int
		most int
	}{
		{true, 2, 3}, {true, 2, 3}, {false, 0, 3}, {true, 0, 16}, {true, 0, 85}, {true, 80, 220}, {true, 0, 11},
		{true, 0, 30}, {true, 0, 30}, {false, 0, 30}, {true, 1, 31}, {true, 15, 40}, {false, 0, 40},
		{true, 0, 0}, {false, 0, 0}, {false, 0, -1}, {true, 0, 1}, {false, 0, -1}, {true, 1, 0}, {false, 0, -1},
		{true, 300, 0}, {true, 300, 0}, {true, 300, 300}, {true, 300, 300}, {false, 0, 299}, {true, 0, 300},
	}
	list := namedConnections()
	if len(list) != len(wants) {
		t.Fatalf("there are %d connections", len(list))
	}
	for i, c := range list {
		checkConnect(t, c, wants[i].made, wants[i].late, wants[i].most)
	}
}

// TestConnectionMinuteByMinute goes through all latenesses of a connection.
func TestConnectionMinuteByMinute(t *testing.T) {
	for late := range 301 {
		c := crossed(fmt.Sprintf("late by %d", late), 90, late, 20, 12)
		switch {
		case late <= 70:
			checkConnect(t, c, true, 0, 82)
		case late <= 82:
			checkConnect(t, c, true, late-70, 82)
		default:
			checkConnect(t, c, false, 0, 82)
		}
	}
}

// TestMostOfConnections has connections for which the first coach may not even be punctual, must be punctual, or may be late by all of DelayMax.
func TestMostOfConnections(t *testing.T) {
	for _, c := range []struct{ minutes, change, most, want int }{
		{10, 11, 0, -1}, {10, 10, 0, 0}, {10, 9, 0, 1}, {10, 11, 1, 0}, {10, 0, 0, 10}, {10, 300, 289, -1}, {10, 300, 290, 0}, {10, 300, 300, 10},
		{0, 0, 0, 0}, {-1, 0, 0, -1}, {-300, 0, 299, -1}, {-300, 0, 300, 0}, {-301, 0, 300, -1}, {-300, 1, 300, -1},
		{299, 0, 0, 299}, {300, 0, 0, 300}, {301, 0, 0, 300}, {299, 0, 1, 300}, {300, 1, 0, 299}, {301, 1, 0, 300}, {600, 300, 0, 300}, {599, 300, 0, 299}, {1000, 300, 300, 300}, {0, 0, 300, 300}, {0, 1, 300, 299},
	} {
		a, b := crossing(c.minutes)
		if got := impl.ConnectMost(3, a, b, 0, c.change, c.most); got != c.want {
			t.Errorf("ConnectMost with %d minutes between, a change of %d and a waiting of %d is %d, want %d", c.minutes, c.change, c.most, got, c.want)
		}
	}
}

// TestConnectionsOfLongStops checks that it is Arrive of the first coach and Leave of the second one that count, in each town of both.
func TestConnectionsOfLongStops(t *testing.T) {
	a := []impl.Stop{{Town: 0, Arrive: 100, Leave: 130}, {Town: 1, Arrive: 200, Leave: 250}, {Town: 2, Arrive: 300, Leave: 370}}
	b := []impl.Stop{{Town: 2, Arrive: 50, Leave: 310}, {Town: 0, Arrive: 311, Leave: 315}, {Town: 1, Arrive: 316, Leave: 420}}
	for _, c := range []struct{ town, most int }{{0, 215}, {1, 220}, {2, 10}} {
		if got := impl.ConnectMost(3, a, b, c.town, 0, 0); got != c.most {
			t.Errorf("ConnectMost in the town %d is %d, want %d", c.town, got, c.most)
		}
		if got, ok := impl.ConnectLate(3, a, b, c.town, c.most+1, 0, 1); !ok || got != 1 {
			t.Errorf("ConnectLate in the town %d gives %d and %v", c.town, got, ok)
		}
	}
	for _, c := range []struct{ town, late int }{{0, 181}, {1, 66}, {2, 0}} {
		if got, ok := impl.ConnectLate(3, b, a, c.town, 0, 0, 300); !ok || got != c.late {
			t.Errorf("ConnectLate the other way in the town %d gives %d and %v, want %d", c.town, got, ok, c.late)
		}
	}
}

// checkNoConnect checks that nothing is told of a connection.
func checkNoConnect(t *testing.T, c connection) {
	t.Helper()
	if made(c) {
		t.Errorf("%s: ConnectMade holds for %v and %v in %d with %d, %d and %d", c.name, c.a, c.b, c.town, c.late, c.change, c.most)
	}
	if late, ok := connectLate(c); ok || late != 0 {
		t.Errorf("%s: ConnectLate of %v and %v in %d with %d, %d and %d gives %d and %v", c.name, c.a, c.b, c.town, c.late, c.change, c.most, late, ok)
	}
}

// checkNoMost checks that nothing is told of a connection, with any lateness.
func checkNoMost(t *testing.T, c connection) {
	t.Helper()
	checkNoConnect(t, c)
	if most := connectMost(c); most != -1 {
		t.Errorf("%s: ConnectMost of %v and %v in %d with %d and %d is %d", c.name, c.a, c.b, c.town, c.change, c.most, most)
	}
}

// TestConnectionsOfNoTimetables gives lists that are no timetables for the first, the second and both coaches.
func TestConnectionsOfNoTimetables(t *testing.T) {
	for _, c := range noTables() {
		for _, town := range []int{0, 1, 2} {
			checkNoMost(t, connection{c.name, c.n, c.stops, plainStops(), town, 0, 0, 300})
			checkNoMost(t, connection{c.name, c.n, plainStops(), c.stops, town, 0, 0, 300})
			checkNoMost(t, connection{c.name, c.n, c.stops, c.stops, town, 0, 0, 300})
		}
	}
}

// TestConnectionsInTownsWithoutBoth gives towns in which only one of both coaches stops, or neither, or which there are not.
func TestConnectionsInTownsWithoutBoth(t *testing.T) {
	first := []impl.Stop{{Town: 0, Arrive: 0, Leave: 0}, {Town: 1, Arrive: 10, Leave: 20}}
	second := []impl.Stop{{Town: 1, Arrive: 100, Leave: 110}, {Town: 2, Arrive: 150, Leave: 160}}
	checkConnect(t, connection{"both", 4, first, second, 1, 0, 0, 0}, true, 0, 100)
	for _, town := range append(farNumbers(), -8, -1, 0, 2, 3, 4, 7, 8, 9) {
		for _, n := range []int{3, 4, 8} {
			checkNoMost(t, connection{"one or neither", n, first, second, town, 0, 0, 300})
			checkNoMost(t, connection{"one or neither, exchanged", n, second, first, town, 0, 0, 300})
		}
	}
}

// TestConnectionsOfNumbersOutOfRange gives each of the three numbers out of its range, with coaches between which there is time enough.
func TestConnectionsOfNumbersOutOfRange(t *testing.T) {
	for _, minutes := range []int{-400, -1, 0, 1, 300, 1000} {
		for _, no := range noDelays() {
			a, b := crossing(minutes)
			checkNoConnect(t, connection{"lateness", 3, a, b, 0, no, 0, 0})
			checkNoConnect(t, connection{"lateness, waiting", 3, a, b, 0, no, 0, 300})
			checkNoMost(t, connection{"change", 3, a, b, 0, 0, no, 0})
			checkNoMost(t, connection{"change, waiting", 3, a, b, 0, 300, no, 300})
			checkNoMost(t, connection{"waiting", 3, a, b, 0, 0, 0, no})
			checkNoMost(t, connection{"all", 3, a, b, 0, no, no, no})
			for _, other := range noDelays() {
				checkNoMost(t, connection{"two", 3, a, b, 0, 0, no, other})
			}
		}
	}
}
