package tests

import (
	"fmt"
	"slices"
	"strings"
	"testing"

	"loop.example/mailcoaches/impl"
)

func TestConstantsOfScripts(t *testing.T) {
	if impl.MaxScript != 500 || impl.ScriptTowns != 6 {
		t.Errorf("MaxScript and ScriptTowns are %d and %d", impl.MaxScript, impl.ScriptTowns)
	}
}

// scriptLine is a line behind some others that succeed, and what it prints.
type scriptLine struct {
	before []string
	line   string
	want   string
}

// afterwards is what is asked behind a line, so that it shows all lists.
func afterwards() []string {
	lines := []string{"coaches", "seats"}
	for a := range 6 {
		for b := range a {
			lines = append(lines, lineOf("far", b, a))
		}
	}
	return lines
}

// withoutCounts is an output without its last line.
func withoutCounts(output string) string {
	return output[:strings.LastIndex(strings.TrimSuffix(output, "\n"), "\n")+1]
}

// checkLine checks what a line prints, and that it changes nothing if it fails.
func checkLine(t *testing.T, c scriptLine) {
	t.Helper()
	before := byLine(c.before...)
	if got, want := withoutCounts(impl.Execute(before+byLine(c.line))), withoutCounts(impl.Execute(before))+c.want+"\n"; got != want {
		t.Errorf("Execute of %q behind %q: got %q, want %q", c.line, c.before, got, want)
	}
	if c.want != "no" && c.want != "what" {
		return
	}
	shown, without := impl.Execute(before+byLine(c.line)+byLine(afterwards()...)), impl.Execute(before+byLine(afterwards()...))
	if want := withoutCounts(impl.Execute(before)) + c.want + "\n" + without[len(withoutCounts(impl.Execute(before))):]; shown != want {
		t.Errorf("Execute of %q behind %q changes something: got %q, want %q", c.line, c.before, shown, want)
	}
}

// checkLines checks what lines print, each one alone behind the same others.
func checkLines(t *testing.T, before []string, pairs ...[2]string) {
	t.Helper()
	for _, pair := range pairs {
		checkLine(t, scriptLine{before, pair[0], pair[1]})
	}
}

func TestKnownScripts(t *testing.T) {
	outputDiffers(t, plainScript(), "ok", "ok", "ok", "7", "2 1 0", "ok", "ok", "ok", "0:00.00-00.10 1:00.20-00.25", "1:00.21-00.22 3:00.30-00.33", "30", "0:0-1 1:0-1", "ok", "ok", "ok", "0 1 0", "roads 2 coaches 2 bookings 3")
	outputDiffers(t, failingScript(), "ok", "no", "no", "no", "no", "no", "ok", "no", "no", "no", "no", "", "0:00.00-00.10 1:00.20-00.25", "what", "roads 1 coaches 1 bookings 0")
	outputDiffers(t, emptyListsScript(), "", "0", "3", "7", "", "no", "no", "no", "no", "no", "", "roads 0 coaches 0 bookings 0")
}

func TestLengthOfScripts(t *testing.T) {
	for _, line := range []string{"", " ", "x", "seats", "\x00", "\u00e9", "road 0 1 5"} {
		for length := 480; length <= 520; length++ {
			text := "road 0 1 5\n" + strings.Repeat(line+"\n", 600)[:length-11]
			if want := modelExecute(text); impl.Execute(text) != want || (want == "too long\n") != (length > 500) {
				t.Errorf("Execute of %d bytes with lines %q: got %q, want %q", length, line, impl.Execute(text), want)
			}
		}
	}
	for _, text := range []string{strings.Repeat("\n", 501), strings.Repeat("x", 501), strings.Repeat("\u20ac", 167), strings.Repeat("seats\n", 84), strings.Repeat(" ", 1<<20), byLine("seats") + strings.Repeat("x", 495)} {
		outputDiffers(t, text, "too long")
	}
	outputDiffers(t, strings.Repeat("x", 500), "roads 0 coaches 0 bookings 0")
	outputDiffers(t, strings.Repeat("\u00e9", 250), "roads 0 coaches 0 bookings 0")
	outputDiffers(t, strings.Repeat("x", 499)+"\n", "what", "roads 0 coaches 0 bookings 0")
	outputDiffers(t, strings.Repeat("\n", 500), append(slices.Repeat([]string{"what"}, 500), "roads 0 coaches 0 bookings 0")...)
	outputDiffers(t, strings.Repeat("seats\n", 83), append(make([]string, 83), "roads 0 coaches 0 bookings 0")...)
}

func TestRoomOfFurtherLines(t *testing.T) {
	for length := 483; length <= 500; length++ {
		text := strings.Repeat("x", length-1) + "\n"
		want := "what\nwhat\nno\nroads 0 coaches 0 bookings 0\n"
		if length > 485 {
			want = "too long\n"
		}
		if got := impl.Execute(text + "zzz\nroad 1 1 5\n"); got != want {
			t.Errorf("Execute of %d bytes and two lines: got %q, want %q", length, got, want)
		}
		want = "what\n\n\nroads 0 coaches 0 bookings 0\n"
		if length > 488 {
			want = "too long\n"
		}
		if got := impl.Execute(text + "seats\nseats\n"); got != want {
			t.Errorf("Execute of %d bytes and two lines: got %q, want %q", length, got, want)
		}
	}
}

func TestLastLineWithoutNewline(t *testing.T) {
	for _, line := range wholeLines(plainScript() + failingScript()) {
		outputDiffers(t, line, "roads 0 coaches 0 bookings 0")
		outputDiffers(t, "\n"+line, "what", "roads 0 coaches 0 bookings 0")
		outputDiffers(t, "road 3 4 5\n"+line, "ok", "roads 1 coaches 0 bookings 0")
	}
	outputDiffers(t, "road 0 1 5\nroad 1 2 5\nroad 2 3 5", "ok", "ok", "roads 2 coaches 0 bookings 0")
	outputDiffers(t, "coach 0 0 0 1 1 1\ncoach 0 0 0 1 1 1", "ok", "roads 0 coaches 1 bookings 0")
	outputDiffers(t, "inside 0 1\ninside 0 1", "ok", "roads 0 coaches 0 bookings 1")
}

// knownWords are the words of a line with the numbers that go with each.
func knownWords() map[string][]int {
	return map[string][]int{
		"road": {3}, "close": {2}, "far": {2}, "way": {2}, "coach": {3, 6, 9, 12, 15, 18, 21, 24, 27, 30},
		"coaches": {0}, "post": {4}, "ride": {4}, "inside": {2}, "outside": {2}, "seats": {0},
	}
}

func TestNumberOfWords(t *testing.T) {
	before := []string{"road 0 1 5", "coach 0 0 0 1 1 1", "inside 0 1"}
	for word, counts := range knownWords() {
		for count := range 32 {
			for _, number := range []string{"0", "1", "x", "", "99999"} {
				line := word + strings.Repeat(" "+number, count)
				got := impl.Execute(byLine(append(before, line)...))
				what := got == byLine("ok", "ok", "ok", "what", "roads 1 coaches 1 bookings 1")
				if what == slices.Contains(counts, count) {
					t.Errorf("%q: got %q", line, got)
				}
			}
		}
	}
}

func TestUnknownWords(t *testing.T) {
	before := []string{"road 0 1 5", "coach 0 0 0 1 1 1", "inside 0 1"}
	words := []string{"", "x", "zzz", "roads", "bookings", "booking", "seat", "seating", "open", "what", "no", "ok", "0", "00000", "-", "ROAD", "Road", "roaD", "Seats", "SEATS", "COACHES", "Coach", "InSide", "r", "roa", "oad", "coache", "coachess", "outsid", "\"seats\"", "seats\r", "seats\t", "\tseats", "seats\x00", "\x00seats", "seats\v", "seats\f", "\ufeffseats", "se\u0430ts", "s\xe9ats", "seats;", "seats,coaches", "road,0,1,5", "road\t0\t1\t5", "far\u00a00\u00a01", "far\u20030\u20031", "\xff", "\xc3", "\u00e9\u00e9", "seats\u2028coaches\u0085", "\r"}
	for _, word := range words {
		for count := range 13 {
			checkLine(t, scriptLine{before, word + strings.Repeat(" 1", count), "what"})
		}
	}
}

// TestSpaces puts a further space ahead of each line, behind it and between its words: an empty word more is one too many, or counts as a number that is out of range.
func TestSpaces(t *testing.T) {
	before := []string{"road 0 1 5", "coach 0 0 0 1 1 1", "inside 0 1"}
	for _, line := range []string{"road 1 2 5", "close 0 1", "far 0 1", "way 0 1", "coach 0 0 0 1 1 1", "coaches", "post 0 1 0 0", "ride 0 1 0 0", "inside 0 1", "outside 0 1", "seats"} {
		for i := range len(line) + 1 {
			if i > 0 && i < len(line) && line[i] != ' ' {
				continue
			}
			for _, spaces := range []string{" ", "  "} {
				checkLine(t, scriptLine{before, line[:i] + spaces + line[i:], "what"})
			}
		}
	}
	checkLines(t, before,
		[2]string{" ", "what"}, [2]string{"   ", "what"}, [2]string{"", "what"},
		[2]string{"road  2 5", "no"}, [2]string{"road 1  5", "no"}, [2]string{"road 1 2 ", "no"}, [2]string{"road   ", "no"},
		[2]string{"close  1", "no"}, [2]string{"close 0 ", "no"}, [2]string{"close  ", "no"},
		[2]string{"far  1", "no"}, [2]string{"far 0 ", "no"}, [2]string{"far  ", "no"},
		[2]string{"way  1", "no"}, [2]string{"way 0 ", "no"}, [2]string{"way  ", "no"},
		[2]string{"coach   ", "no"}, [2]string{"coach 0 0 0 1 1 ", "no"}, [2]string{"coach  0 0 1 1 1", "no"}, [2]string{"coach 0 0  1 1 1", "no"}, [2]string{"coach      ", "no"},
		[2]string{"post  1 0 0", "no"}, [2]string{"post 0  0 0", "no"}, [2]string{"post 0 1  0", "no"}, [2]string{"post 0 1 0 ", "no"}, [2]string{"post    ", "no"},
		[2]string{"ride  1 0 0", "no"}, [2]string{"ride 0  0 0", "no"}, [2]string{"ride 0 1  0", "no"}, [2]string{"ride 0 1 0 ", "no"}, [2]string{"ride    ", "no"},
		[2]string{"inside  1", "no"}, [2]string{"inside 0 ", "no"}, [2]string{"outside  1", "no"}, [2]string{"outside 0 ", "no"}, [2]string{"outside  ", "no"},
		[2]string{"seats ", "what"}, [2]string{"coaches ", "what"}, [2]string{"coach ", "what"}, [2]string{"coach  ", "what"},
	)
}

// TestNumbersAsWritten puts a word in the place of each number of each line.
func TestNumbersAsWritten(t *testing.T) {
	before := []string{"road 0 1 1", "coach 0 0 1 1 2 3", "road 3 4 1"}
	lines := []string{"road # 2 5", "road 1 2 #", "close # 0", "close 0 #", "far 0 #", "far # 1", "way 0 #", "way # 1", "coach 0 # 1 2 3 4", "coach 0 0 # 2 3 4", "coach # 0 0 2 3 4", "coach 2 0 0 3 3 4 # 5 6", "post 0 # 0 0", "post 0 1 # 0", "post 0 1 0 #", "ride 0 # 0 0", "ride 0 1 # 0", "ride 0 1 0 #", "inside # 5", "inside 0 #", "outside # 5", "outside 0 #"}
	for _, line := range lines {
		plain := impl.Execute(byLine(append(before, strings.Replace(line, "#", "1", 1))...))
		if strings.Contains(plain, "no") || strings.Contains(plain, "what") {
			t.Errorf("%q with 1 prints %q", line, plain)
		}
		for _, word := range []string{"01", "001", "0001", "00001"} {
			if got := impl.Execute(byLine(append(before, strings.Replace(line, "#", word, 1))...)); got != plain {
				t.Errorf("%q with %q prints %q, and with 1 %q", line, word, got, plain)
			}
		}
		for _, word := range []string{"000001", "0000001", "00000000000000000000001", "99999", "100000", "100001", "18446744073709551617", "+1", "-1", "1.", ".1", "1.0", "0x1", "1e0", "1_", "", "x", "one", "I", "1\r", "1\t", "\t1", "1\x00", "1\v", "\u0661", "\uff11", "\u00b9", "/", ":", "0/", "0:", "l", "1-", "--1", "'1'"} {
			checkLine(t, scriptLine{before, strings.Replace(line, "#", word, 1), "no"})
		}
	}
}

// TestNumbersOfFiveDigits reads times of one to five digits.
func TestNumbersOfFiveDigits(t *testing.T) {
	for _, time := range []int{0, 1, 9, 10, 11, 99, 100, 123, 999, 1000, 4321, 9876, 9999, 10000} {
		for digits := 1; digits <= 5; digits++ {
			word := fmt.Sprintf("%0*d", digits, time)
			outputDiffers(t, byLine("post 3 3 "+word+" 0"), fmt.Sprint(time), "roads 0 coaches 0 bookings 0")
		}
		outputDiffers(t, byLine(fmt.Sprintf("post 3 3 %06d 0", time)), "no", "roads 0 coaches 0 bookings 0")
	}
	for _, time := range []int{10001, 10002, 12345, 20000, 65536, 99998, 99999} {
		outputDiffers(t, byLine(lineOf("post", 3, 3, time, 0)), "no", "roads 0 coaches 0 bookings 0")
	}
}

func TestLimitsOfRoadLines(t *testing.T) {
	before := []string{"road 0 1 4", "road 1 2 3", "road 0 2 7", "road 3 5 99"}
	checkLines(t, before,
		[2]string{"road 0 3 1", "ok"}, [2]string{"road 4 5 99", "ok"}, [2]string{"road 0 5 50", "ok"}, [2]string{"road 0 4 00099", "ok"},
		[2]string{"road 0 3 0", "no"}, [2]string{"road 0 3 100", "no"}, [2]string{"road 0 6 5", "no"}, [2]string{"road 5 6 5", "no"}, [2]string{"road 6 7 5", "no"}, [2]string{"road 0 7 5", "no"},
		[2]string{"road 4 3 5", "no"}, [2]string{"road 1 1 5", "no"}, [2]string{"road 0 0 0", "no"}, [2]string{"road 1 0 5", "no"}, [2]string{"road 0 1 4", "no"}, [2]string{"road 0 1 5", "no"},
		[2]string{"close 0 1", "ok"}, [2]string{"close 1 0", "ok"}, [2]string{"close 5 3", "ok"},
		[2]string{"close 0 3", "no"}, [2]string{"close 0 0", "no"}, [2]string{"close 0 6", "no"}, [2]string{"close 6 0", "no"}, [2]string{"close 6 6", "no"},
		[2]string{"far 0 2", "7"}, [2]string{"far 2 0", "7"}, [2]string{"far 5 3", "99"}, [2]string{"far 4 4", "0"}, [2]string{"far 0 0", "0"},
		[2]string{"far 0 3", "no"}, [2]string{"far 4 5", "no"}, [2]string{"far 0 6", "no"}, [2]string{"far 6 0", "no"}, [2]string{"far 6 6", "no"}, [2]string{"far 7 7", "no"},
		[2]string{"way 0 2", "0 1 2"}, [2]string{"way 2 0", "2 0"}, [2]string{"way 5 3", "5 3"}, [2]string{"way 4 4", "4"}, [2]string{"way 0 0", "0"}, [2]string{"way 5 5", "5"},
		[2]string{"way 0 3", "no"}, [2]string{"way 4 5", "no"}, [2]string{"way 0 6", "no"}, [2]string{"way 6 0", "no"}, [2]string{"way 6 6", "no"},
	)
	six := linesOf(path(6, 99), roadLine)
	checkLines(t, six, [2]string{"far 0 5", "495"}, [2]string{"way 0 5", "0 1 2 3 4 5"}, [2]string{"way 5 0", "5 4 3 2 1 0"}, [2]string{"way 4 1", "4 3 2 1"})
}

func TestLimitsOfCoachLines(t *testing.T) {
	checkLines(t, []string{"coach 0 5 10 1 20 25", "coach 1 100 200 2 210 210"},
		[2]string{"coach 0 0 0 1 10000 10000", "ok"}, [2]string{"coach 5 0 0 4 1 1", "ok"}, [2]string{"coach 0 1 1 1 2 2 2 3 3 3 4 4 4 5 5 5 6 6", "ok"}, [2]string{"coach 00000 00000 00000 00001 00001 00001", "ok"},
		[2]string{"coach 0 1 1", "no"}, [2]string{"coach 0 1 1 1 1 1", "no"}, [2]string{"coach 0 2 2 1 1 1", "no"}, [2]string{"coach 0 2 1 1 3 3", "no"}, [2]string{"coach 0 1 1 0 2 2", "no"}, [2]string{"coach 0 1 1 6 2 2", "no"}, [2]string{"coach 6 1 1 0 2 2", "no"},
		[2]string{"coach 0 1 1 1 10001 10001", "no"}, [2]string{"coach 0 1 1 1 2 10001", "no"}, [2]string{"coach 10001 1 1 1 2 2", "no"},
		[2]string{"coach 0 1 1 1 2 2 2 3 3 3 4 4 4 5 5 5 6 6 6 7 7", "no"}, [2]string{"coach 0 1 1 1 2 2 2 3 3 3 4 4 4 5 5 5 6 6 0 7 7", "no"}, [2]string{"coach 0 1 1 1 2 2 2 3 3 3 4 4 4 5 5 5 6 6 6 7 7 7 8 8", "no"}, [2]string{"coach 0 1 1 1 2 2 2 3 3 3 4 4 4 5 5 5 6 6 6 7 7 7 8 8 0 9 9", "no"},
		[2]string{"coach", "what"}, [2]string{"coach 0", "what"}, [2]string{"coach 0 1", "what"}, [2]string{"coach 0 1 1 1", "what"}, [2]string{"coach 0 1 1 1 2", "what"}, [2]string{"coach 0 1 1 1 2 2 2", "what"}, [2]string{"coach 0 1 1 1 2 2 2 3 3 3 4 4 4 5 5 5 6", "what"}, [2]string{"coach 0 1 1 1 2 2 2 3 3 3 4 4 4 5 5 5 6 6 6", "what"},
		[2]string{"coaches", "0:00.05-00.10 1:00.20-00.25\n1:01.40-03.20 2:03.30-03.30"},
	)
	checkLines(t, []string{"coach 2 1430 1450 0 2879 2880 5 9999 10000"}, [2]string{"coaches", "2:23.50-00.10 0:23.59-00.00 5:22.39-22.40"})
}

func TestLimitsOfPostLines(t *testing.T) {
	before := []string{"coach 0 0 10 1 20 25", "coach 1 21 22 3 30 33", "coach 1 300 320 4 330 330", "coach 1 310 321 5 332 332"}
	checkLines(t, before,
		[2]string{"post 0 1 0 0", "20"}, [2]string{"post 0 1 10 300", "20"}, [2]string{"post 0 3 10 2", "30"}, [2]string{"post 0 4 10 300", "330"}, [2]string{"post 0 5 10 300", "332"}, [2]string{"post 0 0 10000 300", "10000"}, [2]string{"post 5 5 0 0", "0"}, [2]string{"post 1 4 320 300", "330"},
		[2]string{"post 0 1 11 0", "no"}, [2]string{"post 0 3 10 3", "no"}, [2]string{"post 0 4 10 301", "no"}, [2]string{"post 0 0 0 301", "no"}, [2]string{"post 0 0 10001 0", "no"}, [2]string{"post 6 6 0 0", "no"}, [2]string{"post 6 0 0 0", "no"}, [2]string{"post 0 6 0 0", "no"}, [2]string{"post 1 0 0 0", "no"}, [2]string{"post 2 0 0 0", "no"},
		[2]string{"ride 0 1 0 0", "0:0-1"}, [2]string{"ride 0 3 10 2", "0:0-1 1:0-1"}, [2]string{"ride 0 4 10 300", "0:0-1 2:0-1"}, [2]string{"ride 0 5 10 300", "0:0-1 3:0-1"}, [2]string{"ride 0 0 10000 300", ""}, [2]string{"ride 5 5 0 0", ""}, [2]string{"ride 1 4 320 300", "2:0-1"},
		[2]string{"ride 0 1 11 0", "no"}, [2]string{"ride 0 3 10 3", "no"}, [2]string{"ride 0 4 10 301", "no"}, [2]string{"ride 0 0 0 301", "no"}, [2]string{"ride 0 0 10001 0", "no"}, [2]string{"ride 6 6 0 0", "no"}, [2]string{"ride 6 0 0 0", "no"}, [2]string{"ride 0 6 0 0", "no"}, [2]string{"ride 1 0 0 0", "no"}, [2]string{"ride 2 0 0 0", "no"},
	)
	through := linesOf(laterStopsNet().net, coachLine)
	checkLines(t, through,
		[2]string{"post 2 4 0 0", "44"}, [2]string{"ride 2 4 0 0", "0:1-2 5:0-1"}, [2]string{"post 2 4 0 6", "45"}, [2]string{"ride 2 4 0 6", "0:1-3"},
		[2]string{"post 3 5 30 0", "60"}, [2]string{"ride 3 5 30 0", "5:0-1 4:0-1"}, [2]string{"post 3 5 30 300", "60"}, [2]string{"ride 3 5 30 300", "5:0-2"},
	)
}

func TestLimitsOfBookingLines(t *testing.T) {
	for _, word := range []string{"inside", "outside"} {
		for from := range 9 {
			for to := range 9 {
				want := "no"
				if from < to && to <= 5 {
					want = "ok"
				}
				checkLine(t, scriptLine{nil, lineOf(word, from, to), want})
			}
		}
	}
	before := []string{"inside 0 3", "outside 0 3", "inside 3 5", "inside 2 4", "outside 4 5"}
	checkLines(t, before, [2]string{"seats", "0 0 0 1 0"})
}
