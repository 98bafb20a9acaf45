package tests

import (
	"slices"
	"strings"
	"testing"

	"loop.example/mailcoaches/impl"
)

// Lists of a script that are empty, full, or empty once more, and runs that follow each other.

func TestEmptyLists(t *testing.T) {
	none := "roads 0 coaches 0 bookings 0"
	outputDiffers(t, "", none)
	outputDiffers(t, byLine("coaches"), none)
	outputDiffers(t, byLine("coaches", "coaches", "coaches"), none)
	outputDiffers(t, byLine("seats"), "", none)
	outputDiffers(t, byLine("seats", "coaches", "seats"), "", "", none)
	outputDiffers(t, byLine("", ""), "what", "what", none)
	outputDiffers(t, byLine("close 0 1", "far 0 1", "way 0 1", "post 0 1 0 0", "ride 0 1 0 0"), "no", "no", "no", "no", "no", none)
	for town := range 6 {
		lines := []string{lineOf("far", town, town), lineOf("way", town, town), lineOf("post", town, town, 7, 3), lineOf("ride", town, town, 7, 3)}
		outputDiffers(t, byLine(lines...), "0", lineOf("", town)[1:], "7", "", none)
	}
}

func TestListsThatStayEmpty(t *testing.T) {
	none := "roads 0 coaches 0 bookings 0"
	outputDiffers(t, byLine("coach 0 0 0", "coaches", "post 0 0 1 1", "ride 0 0 1 1"), "no", "1", "", none)
	outputDiffers(t, byLine("inside 5 0", "seats", "outside 0 6", "seats"), "no", "", "no", "", none)
	outputDiffers(t, byLine("road 1 0 5", "far 0 1", "close 0 1"), "no", "no", "no", none)
	outputDiffers(t, byLine("road 0 1 5", "seats", "coaches", "ride 0 1 0 0"), "ok", "", "no", "roads 1 coaches 0 bookings 0")
	outputDiffers(t, byLine("coach 0 0 0 1 1 1", "seats", "far 0 1", "way 0 1"), "ok", "", "no", "no", "roads 0 coaches 1 bookings 0")
	outputDiffers(t, byLine("inside 0 1", "coaches", "far 0 1", "post 0 1 0 0"), "ok", "no", "no", "roads 0 coaches 0 bookings 1")
}

func TestListsThatBecomeEmpty(t *testing.T) {
	outputDiffers(t, byLine("road 0 1 5", "far 0 1", "close 1 0", "far 0 1", "close 0 1", "road 0 1 6", "far 0 1"), "ok", "5", "ok", "no", "no", "ok", "6", "roads 1 coaches 0 bookings 0")
	outputDiffers(t, byLine("road 0 1 5", "road 4 5 7", "close 0 1", "close 4 5", "close 4 5"), "ok", "ok", "ok", "ok", "no", "roads 0 coaches 0 bookings 0")
}

func TestAllRoads(t *testing.T) {
	roads := linesOf(allPairRoads(), roadLine)
	if len(roads) != 15 {
		t.Fatalf("there are %d roads", len(roads))
	}
	oks := slices.Repeat([]string{"ok"}, 15)
	outputDiffers(t, byLine(roads...), append(oks, countsLine(15, 0, 0))...)
	// No two roads join the same towns, so 6 towns have no room for RoadsMax roads.
	outputDiffers(t, byLine(append(roads, roads...)...), slices.Concat(oks, slices.Repeat([]string{"no"}, 15), []string{countsLine(15, 0, 0)})...)
	outputDiffers(t, byLine(append(roads, "close 5 0", "road 0 5 98", "road 0 5 98", "close 0 5", "close 4 5")...), append(oks, "ok", "ok", "no", "ok", "ok", countsLine(13, 0, 0))...)
	for i := range 15 {
		outputDiffers(t, byLine(roads[:i]...), append(oks[:i:i], countsLine(i, 0, 0))...)
	}
}

func TestMostCoaches(t *testing.T) {
	lines, oks, clocks := []string{}, []string{}, []string{}
	for i := range impl.CoachesMax {
		lines = append(lines, lineOf("coach", i, i, i, (i+1)%6, i+1, i+1))
		oks = append(oks, "ok")
		clocks = append(clocks, impl.StopsText(6, byCoach(i, i, i, (i+1)%6, i+1, i+1)))
		outputDiffers(t, byLine(append(lines, "coaches")...), slices.Concat(oks, clocks, []string{countsLine(0, i+1, 0)})...)
	}
	outputDiffers(t, byLine(append(lines, lines[0], "coach 0 0 0 5 1 1", "coaches")...), slices.Concat(oks, []string{"no", "no"}, clocks, []string{countsLine(0, 6, 0)})...)
	outputDiffers(t, byLine(append(lines, "post 0 5 0 0", "ride 0 5 0 0", "ride 3 0 0 0")...), append(oks, "5", "0:0-1 1:0-1 2:0-1 3:0-1 4:0-1", "3:0-1 4:0-1 5:0-1", countsLine(0, 6, 0))...)
}

func TestMostBookings(t *testing.T) {
	lines := linesOf(manyScriptBookings(), bookingLine)
	if len(lines) != 16 {
		t.Fatalf("there are %d bookings", len(lines))
	}
	oks := slices.Repeat([]string{"ok"}, 16)
	for i := range 17 {
		outputDiffers(t, byLine(lines[:i]...), append(oks[:i:i], countsLine(0, 0, i))...)
	}
	seats := strings.TrimPrefix(lineOf("", modelMakeSeating(5, manyScriptBookings())...), " ")
	outputDiffers(t, byLine(append(lines, "inside 0 1", "outside 1 2", "inside 4 5", "seats")...), append(oks, "no", "no", "no", seats, countsLine(0, 0, 16))...)
}

func TestLastSeatOfScripts(t *testing.T) {
	inside, outside := slices.Repeat([]string{"inside 1 4"}, 4), slices.Repeat([]string{"outside 1 4"}, 6)
	oks := slices.Repeat([]string{"ok"}, 10)
	outputDiffers(t, byLine(append(inside, "inside 1 4", "inside 3 5", "inside 0 2", "outside 1 4", "inside 0 1", "inside 4 5", "seats")...), append(oks[:4:4], "no", "no", "no", "ok", "ok", "ok", "0 1 2 3 0 0 0", countsLine(0, 0, 7))...)
	outputDiffers(t, byLine(append(outside, "outside 1 4", "outside 3 5", "outside 0 2", "inside 1 4", "outside 0 1", "outside 4 5", "seats")...), append(oks[:6:6], "no", "no", "no", "ok", "ok", "ok", "0 1 2 3 4 5 0 0 0", countsLine(0, 0, 9))...)
	outputDiffers(t, byLine(slices.Concat(inside, outside, []string{"inside 2 3", "outside 2 3", "seats"})...), append(oks, "no", "no", "0 1 2 3 0 1 2 3 4 5", countsLine(0, 0, 10))...)
}

// TestFailuresChangeNothing puts lines that fail between those of scripts, which print the same around them.
func TestFailuresChangeNothing(t *testing.T) {
	failing := []string{"road 1 1 5", "road 0 6 5", "close 3 3", "far 0 9", "way x 0", "coach 0 0 0", "coach 0 0 0 1 0 0", "post 0 0 10001 0", "ride 0 0 0 301", "inside 1 1", "outside 5 6", "zzz", "", "seats ", "road 0 1", "coach 0 0"}
	s := &numbers{state: 281}
	tried := 0
	for _, c := range mixedScripts(1500) {
		lines := wholeLines(c.text)
		line := failing[s.below(len(failing))]
		at := s.below(len(lines) + 1)
		more := byLine(slices.Insert(slices.Clone(lines), at, line)...)
		if len(more) > impl.MaxScript {
			continue
		}
		tried++
		ahead, output := withoutCounts(impl.Execute(byLine(lines[:at]...))), impl.Execute(byLine(lines...))
		want := "no\n"
		if slices.Index(failing, line) >= slices.Index(failing, "zzz") {
			want = "what\n"
		}
		if got := impl.Execute(more); got != ahead+want+output[len(ahead):] {
			t.Fatalf("Execute of %q with %q at %d: got %q, and without it %q", lines, line, at, got, output)
		}
	}
	if tried < 1000 {
		t.Errorf("only %d scripts had room for a line", tried)
	}
}

// TestRunsOfScripts checks that a run leaves nothing behind for the next one, also if several go on at once.
func TestRunsOfScripts(t *testing.T) {
	scripts := slices.Concat(namedScripts(), mixedScripts(200))
	outputs := []string{}
	for _, c := range scripts {
		outputs = append(outputs, impl.Execute(c.text))
		outputDiffers(t, "", "roads 0 coaches 0 bookings 0")
		outputDiffers(t, byLine("coaches", "seats", "close 0 1", "far 0 1"), "", "no", "no", "roads 0 coaches 0 bookings 0")
	}
	for i, c := range slices.Backward(scripts) {
		if got := impl.Execute(c.text); got != outputs[i] {
			t.Errorf("%s: Execute prints %q, and later %q", c.name, outputs[i], got)
		}
	}
	done := make(chan string)
	for i, c := range scripts {
		go func() {
			if impl.Execute(c.text) == outputs[i] {
				done <- ""
				return
			}
			done <- c.name
		}()
	}
	for range scripts {
		if name := <-done; name != "" {
			t.Errorf("%s: Execute prints something else beside other runs", name)
		}
	}
}

// TestNumberOfOutputLines checks that each whole line prints one line, but for coaches, of which there is one line for each.
func TestNumberOfOutputLines(t *testing.T) {
	eachScript(t, func(t *testing.T, text string) {
		if len(text) > impl.MaxScript {
			return
		}
		ahead, want := "", 1
		for _, line := range wholeLines(text) {
			if line == "coaches" {
				want += len(wholeLines(impl.Execute(ahead+byLine(line)))) - len(wholeLines(impl.Execute(ahead)))
			} else {
				want++
			}
			ahead += line + "\n"
		}
		if got := len(wholeLines(impl.Execute(text))); got != want {
			t.Errorf("Execute prints %d lines, and should print %d", got, want)
		}
	})
}
