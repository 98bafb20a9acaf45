package tests

import (
	"fmt"
	"slices"
	"strconv"
	"strings"
	"testing"

	"loop.example/mailcoaches/impl"
)

// namedScript is a script, with the name by which a failure is told.
type namedScript struct {
	name string
	text string
}

// byLine is a script of whole lines.
func byLine(lines ...string) string {
	text := ""
	for _, line := range lines {
		text += line + "\n"
	}
	return text
}

// lineOf is a line of a word and some numbers.
func lineOf(word string, numbers ...int) string {
	for _, number := range numbers {
		word += " " + strconv.Itoa(number)
	}
	return word
}

// roadLine, coachLine and bookingLine are the lines that add a road, a timetable and a booking.
func roadLine(r impl.Road) string {
	return lineOf("road", r.A, r.B, r.Miles)
}

func coachLine(stops []impl.Stop) string {
	numbers := []int{}
	for _, s := range stops {
		numbers = append(numbers, s.Town, s.Arrive, s.Leave)
	}
	return lineOf("coach", numbers...)
}

func bookingLine(b impl.Booking) string {
	if b.Inside {
		return lineOf("inside", b.From, b.To)
	}
	return lineOf("outside", b.From, b.To)
}

// linesOf are the lines of a list.
func linesOf[T any](list []T, line func(x T) string) []string {
	lines := []string{}
	for _, x := range list {
		lines = append(lines, line(x))
	}
	return lines
}

// countsLine is the last line of an output.
func countsLine(roads int, coaches int, bookings int) string {
	return fmt.Sprintf("roads %d coaches %d bookings %d", roads, coaches, bookings)
}

// allPairRoads are roads between all towns of a script, each as long as its index and 1.
func allPairRoads() []impl.Road {
	roads := []impl.Road{}
	for a := range 6 {
		for b := a + 1; b < 6; b++ {
			roads = append(roads, impl.Road{A: a, B: b, Miles: len(roads) + 1})
		}
	}
	return roads
}

// plainScript has each line that can succeed, and does.
func plainScript() string {
	return byLine("road 0 1 4", "road 1 2 3", "road 0 2 9", "far 0 2", "way 2 0", "close 2 1", "coach 0 0 10 1 20 25", "coach 1 21 22 3 30 33", "coaches", "post 0 3 5 2", "ride 0 3 5 2", "inside 0 2", "inside 1 3", "outside 0 5", "seats")
}

// failingScript has each line that can fail, and does, with other lines around.
func failingScript() string {
	return byLine("road 0 1 4", "road 1 0 4", "close 0 2", "far 0 2", "way 2 0", "coach 0 0 10", "coach 0 0 10 1 20 25", "post 1 0 0 0", "ride 1 0 0 0", "inside 2 2", "outside 4 6", "seats", "coaches", "zzz")
}

// emptyListsScript asks for everything when there is nothing yet.
func emptyListsScript() string {
	return byLine("coaches", "seats", "far 0 0", "way 3 3", "post 2 2 7 0", "ride 1 1 0 0", "far 0 1", "way 0 1", "close 0 1", "post 0 1 0 0", "ride 0 1 0 0", "coaches", "seats")
}

// namedScripts are scripts with the edge cases of the chapter.
func namedScripts() []namedScript {
	return []namedScript{
		{"empty", ""},
		{"no newline", "seats"},
		{"a newline", "\n"},
		{"only newlines", strings.Repeat("\n", 7)},
		{"as many newlines as can be", strings.Repeat("\n", 500)},
		{"only spaces", "   "},
		{"only spaces and a newline", "   \n"},
		{"last line without a newline", "road 0 1 5\nroad 1 2 5"},
		{"plain", plainScript()},
		{"plain without the last newline", strings.TrimSuffix(plainScript(), "\n")},
		{"all that fails", failingScript()},
		{"empty lists", emptyListsScript()},
		{"words of nothing", byLine("", " ", "  ", "road", "road ", " road", "road  ", "coach", "coach ", "seats ", " seats", "coaches ")},
		{"all roads", byLine(linesOf(allPairRoads(), roadLine)...)},
		{"all coaches", byLine(slices.Repeat([]string{"coach 0 0 0 1 1 1"}, 7)...)},
		{"all bookings", byLine(linesOf(manyScriptBookings(), bookingLine)...)},
		{"other bytes", "road\t0 1 5\nroad 0\u00a01 5\nroad 0 1 \u0665\nseats\r\n\x00\n\xff\xfe\nseats\v\nr\u00f6ad 0 1 5\n"},
		{"MaxScript bytes", byLine("road 0 1 5", strings.Repeat("x", 488))},
		{"MaxScript bytes, the last line not whole", byLine("road 0 1 5") + strings.Repeat("x", 489)},
		{"MaxScript bytes and one more", byLine("road 0 1 5", strings.Repeat("x", 489))},
		{"MaxScript bytes and one more, the last line not whole", byLine("road 0 1 5") + strings.Repeat("x", 490)},
	}
}

// manyScriptBookings are BookingsMax bookings of a coach of 5 legs, with seats of each kind left on each leg.
func manyScriptBookings() []impl.Booking {
	return slices.Concat(many(3, inBooking(0, 2)), many(3, outBooking(0, 2)), many(3, inBooking(2, 5)), many(5, outBooking(2, 5)), many(2, outBooking(0, 1)))
}

// mixedNumber is a word for a number: most of them below a limit, some with leading zeros, and a few that are out of range or no number.
func mixedNumber(s *numbers, limit int) string {
	number := s.below(limit)
	switch s.below(100) {
	case 0:
		return []string{"", "x", "-1", "+1", "1.", "100000", "000001", "99999", "1e1", "\t1", "1\r"}[s.below(11)]
	case 1, 2, 3:
		return fmt.Sprintf("%05d", number)
	case 4:
		return strconv.Itoa(limit + s.below(3))
	default:
		return strconv.Itoa(number)
	}
}

// mixedWords is a line of a word and numbers below some limits, rarely with one too few or too many.
func mixedWords(s *numbers, word string, limits ...int) string {
	words := []string{word}
	for _, limit := range limits {
		words = append(words, mixedNumber(s, limit))
	}
	switch s.below(60) {
	case 0:
		words = append(words, mixedNumber(s, 6))
	case 1:
		words = words[:len(words)-1]
	case 2:
		words = append([]string{""}, words...)
	}
	return strings.Join(words, " ")
}

// mixedRoadLine is a line of the roads.
func mixedRoadLine(s *numbers) string {
	a, b := s.below(6), s.below(6)
	switch s.below(8) {
	case 0, 1, 2, 3:
		return roadLine(impl.Road{A: min(a, b), B: max(a, b), Miles: 1 + s.below(9)})
	case 4:
		return mixedWords(s, "road", 6, 6, 100)
	case 5:
		return mixedWords(s, "close", 6, 6)
	case 6:
		return mixedWords(s, "far", 6, 6)
	default:
		return mixedWords(s, "way", 6, 6)
	}
}

// mixedCoachLine is a line of the coaches.
func mixedCoachLine(s *numbers) string {
	switch s.below(7) {
	case 0, 1:
		return coachLine(crowdedStops(s, 6, 0))
	case 2:
		return mixedWords(s, "coach", 6, 10, 20, 6, 40, 40)
	case 3:
		return mixedWords(s, "coaches")
	case 4:
		return mixedWords(s, "post", 6, 6, 40, 9)
	default:
		return mixedWords(s, "ride", 6, 6, 40, 9)
	}
}

// mixedBookingLine is a line of the bookings.
func mixedBookingLine(s *numbers) string {
	switch s.below(5) {
	case 0, 1:
		return mixedWords(s, "inside", 5, 6)
	case 2, 3:
		return mixedWords(s, "outside", 5, 6)
	default:
		return mixedWords(s, "seats")
	}
}

// mixedOtherLine is a line that no command takes.
func mixedOtherLine(s *numbers) string {
	words := []string{"", " ", "zzz", "Road 0 1 5", "SEATS", "roads", "in 0 1", "coache", "coachess", "road\t0 1 5", "seats\r", "far0 1", "0 1", "ways 0 1", "\x00", "r\u00f6ad 0 1 5"}
	return words[s.below(len(words))]
}

// mixedLine is a line of one of the three lists, of which one can be more frequent, or of none.
func mixedLine(s *numbers, kind int) string {
	if s.below(3) == 0 {
		kind = s.below(3)
	}
	if s.below(25) == 0 {
		return mixedOtherLine(s)
	}
	switch kind {
	case 0:
		return mixedRoadLine(s)
	case 1:
		return mixedCoachLine(s)
	default:
		return mixedBookingLine(s)
	}
}

// mixedScripts are scripts out of a fixed sequence, of up to so many bytes, some with a last line that is not whole.
func mixedScripts(number int) []namedScript {
	s := &numbers{state: 271}
	scripts := []namedScript{}
	for i := range number {
		room, text := 40+s.below(461), ""
		for line := mixedLine(s, i%3); len(text)+len(line)+1 <= room; line = mixedLine(s, i%3) {
			text += line + "\n"
		}
		if s.below(4) == 0 {
			text += mixedLine(s, i%3)
		}
		scripts = append(scripts, namedScript{fmt.Sprintf("mixed %d", i), text[:min(len(text), 500)]})
	}
	return scripts
}

// shortScripts are all scripts of at most so many pieces, which are put together without a space between.
func shortScripts(most int) []namedScript {
	pieces := []string{"seats", "far", "road", "coach", " ", "\n", "0", " 1", " 5", "es"}
	texts := []string{""}
	for begin := 0; most > 0; most-- {
		end := len(texts)
		for ; begin < end; begin++ {
			for _, piece := range pieces {
				texts = append(texts, texts[begin]+piece)
			}
		}
	}
	scripts := []namedScript{}
	for i, text := range texts {
		scripts = append(scripts, namedScript{fmt.Sprintf("short %d", i), text})
	}
	return scripts
}

// allScripts are all scripts on which the tests are done.
func allScripts() []namedScript {
	return slices.Concat(namedScripts(), mixedScripts(6000), shortScripts(4))
}

// eachScript does a test with all scripts.
func eachScript(t *testing.T, test func(t *testing.T, text string)) {
	t.Helper()
	for _, c := range allScripts() {
		test(t, c.text)
		if t.Failed() {
			t.Fatalf("script %q: %q", c.name, c.text)
		}
	}
}

// wholeLines are the lines of a script that end with a newline.
func wholeLines(text string) []string {
	lines := strings.Split(text, "\n")
	return lines[:len(lines)-1]
}

// wholeOf is a script without its last line, if this is not whole.
func wholeOf(text string) string {
	return byLine(wholeLines(text)...)
}

// outputDiffers tells that an output is not what it should be, line by line.
func outputDiffers(t *testing.T, text string, want ...string) {
	t.Helper()
	if got := impl.Execute(text); got != byLine(want...) {
		t.Errorf("Execute of %q: got %q, want %q", text, got, byLine(want...))
	}
}
