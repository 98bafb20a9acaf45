package tests

import (
	"fmt"
	"slices"
	"strconv"
	"strings"
	"testing"

	"loop.example/mailcoaches/impl"
)

// checkAhead checks that lines behind a script of whole lines print something ahead of the last line, which stays.
func checkAhead(t *testing.T, text string, lines []string, printed string) {
	t.Helper()
	before, after := impl.Execute(text), impl.Execute(text+byLine(lines...))
	last := strings.LastIndex(strings.TrimSuffix(before, "\n"), "\n") + 1
	if want := before[:last] + printed + before[last:]; after != want {
		t.Errorf("Execute with %q behind: got %q, want %q", lines, after, want)
	}
}

// checkRoom reports whether a script is of whole lines and has room for so many bytes.
func checkRoom(text string, room int) bool {
	return (text == "" || strings.HasSuffix(text, "\n")) && len(text)+room <= impl.MaxScript
}

// P108. Execute of an empty script tells that there are 0 roads, 0 coaches and 0 bookings; no output is empty; and what follows the last newline of a script of at most MaxScript bytes is ignored.
func TestP108Empty(t *testing.T) {
	outputDiffers(t, "", "roads 0 coaches 0 bookings 0")
	ignored := 0
	eachScript(t, func(t *testing.T, text string) {
		output := impl.Execute(text)
		if !strings.HasSuffix(output, "\n") {
			t.Errorf("Execute prints %q", output)
		}
		if len(text) > impl.MaxScript {
			return
		}
		whole := text[:strings.LastIndex(text, "\n")+1]
		for _, tail := range []string{"", "x", " ", "seats", "road 0 1 5", "road 0 1 5 ", "coaches\r", "inside 0 1", strings.Repeat("y", impl.MaxScript-len(whole))} {
			if len(whole)+len(tail) > impl.MaxScript {
				continue
			}
			ignored++
			if got := impl.Execute(whole + tail); got != output {
				t.Errorf("Execute prints %q, and with %q behind the last newline %q", output, tail, got)
			}
		}
	})
	if ignored < 50000 {
		t.Errorf("only %d scripts had something behind the last newline", ignored)
	}
}

// P109. Execute of a script of complete lines with room for 16 bytes, followed by "zzz" and "road 1 1 5", prints "what" and "no" ahead of the last line, which stays.
func TestP109WhatAndNo(t *testing.T) {
	tried, most := 0, 0
	eachScript(t, func(t *testing.T, text string) {
		text = wholeOf(text)
		if !checkRoom(text, 16) {
			return
		}
		tried, most = tried+1, max(most, len(text))
		checkAhead(t, text, []string{"zzz", "road 1 1 5"}, "what\nno\n")
	})
	if tried < 10000 || most < 480 {
		t.Errorf("only %d scripts had room, the longest one of %d bytes", tried, most)
	}
}

// P110. Execute of a script of complete lines with room for 12 bytes, followed by two lines "seats", prints the same for both ahead of the last line.
func TestP110SeatsTwice(t *testing.T) {
	tried, different := 0, map[string]bool{}
	eachScript(t, func(t *testing.T, text string) {
		text = wholeOf(text)
		if !checkRoom(text, 12) {
			return
		}
		before, after := impl.Execute(text), impl.Execute(text+byLine("seats", "seats"))
		last := strings.LastIndex(strings.TrimSuffix(before, "\n"), "\n") + 1
		printed, ok := strings.CutSuffix(strings.TrimPrefix(after, before[:last]), before[last:])
		half := len(printed) / 2
		if !ok || !strings.HasPrefix(after, before[:last]) || printed != printed[:half]+printed[:half] || strings.Count(printed, "\n") != 2 {
			t.Errorf("Execute prints %q, and with two lines %q", before, after)
		}
		tried, different[printed] = tried+1, true
	})
	if tried < 10000 || len(different) < 500 {
		t.Errorf("only %d scripts had room, with %d different seats", tried, len(different))
	}
}

// P111. Execute of a line "road" for each road of at most ScriptTowns towns for which RoadsWay succeeds between two towns, and of "far" and "way" with both prints "ok" for each, RoadsFar and the towns.
func TestP111Roads(t *testing.T) {
	tried := map[int]int{}
	eachPair(t, func(t *testing.T, m roadMap, a int, b int) {
		way, ok := impl.RoadsWay(m.n, m.roads, a, b)
		if m.n > impl.ScriptTowns || !ok {
			return
		}
		tried[len(way)]++
		lines := append(linesOf(m.roads, roadLine), lineOf("far", a, b), lineOf("way", a, b))
		want := append(slices.Repeat([]string{"ok"}, len(m.roads)), strconv.Itoa(impl.RoadsFar(m.n, m.roads, a, b)), strings.TrimPrefix(lineOf("", way...), " "), countsLine(len(m.roads), 0, 0))
		outputDiffers(t, byLine(lines...), want...)
	})
	if tried[1] < 500 || tried[2] < 500 || tried[3] < 500 || tried[4] < 100 || tried[5] == 0 {
		t.Errorf("the numbers of ways with so many towns are %v", tried)
	}
}

// P112. Execute of a line "coach" for each timetable of a net of at most ScriptTowns towns, if they are short enough, and of "post" for which PostArrive is not -1 prints "ok" for each and the time.
func TestP112Coaches(t *testing.T) {
	tried := map[int]int{}
	eachLetter(t, func(t *testing.T, c sentLetter) {
		for to := range c.n {
			time := arriveIn(c, to)
			lines := append(linesOf(c.net, coachLine), lineOf("post", c.from, to, c.time, c.change))
			if c.n > impl.ScriptTowns || time == -1 || len(byLine(lines...)) > impl.MaxScript {
				continue
			}
			tried[len(c.net)]++
			want := append(slices.Repeat([]string{"ok"}, len(c.net)), strconv.Itoa(time), countsLine(0, len(c.net), 0))
			outputDiffers(t, byLine(lines...), want...)
		}
	})
	for number := 0; number <= impl.CoachesMax; number++ {
		if tried[number] < 10 {
			t.Errorf("the numbers of posts with so many coaches are %v", tried)
		}
	}
}

// P113. Execute of a line "inside" or "outside" for each booking of a coach of at most ScriptTowns - 1 legs for which SeatingMake succeeds, and of "seats" prints "ok" for each and all seats.
func TestP113Bookings(t *testing.T) {
	tried := map[int]int{}
	eachBookings(t, func(t *testing.T, c coachBookings) {
		seating, ok := impl.SeatingMake(c.n, c.list)
		if c.n > impl.ScriptTowns-1 || !ok {
			return
		}
		tried[len(c.list)]++
		lines := append(linesOf(c.list, bookingLine), "seats")
		want := append(slices.Repeat([]string{"ok"}, len(c.list)), strings.Trim(fmt.Sprint(seating), "[]"), countsLine(0, 0, len(c.list)))
		outputDiffers(t, byLine(lines...), want...)
	})
	for _, number := range []int{0, 1, 2, 3, 6, 8, 10, 12, 16} {
		if tried[number] == 0 {
			t.Errorf("the numbers of lists with so many bookings are %v", tried)
		}
	}
}
