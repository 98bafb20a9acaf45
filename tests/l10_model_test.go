package tests

import (
	"fmt"
	"regexp"
	"slices"
	"strconv"
	"strings"
	"sync"
	"testing"

	"loop.example/mailcoaches/impl"
)

// The model reads a script byte by byte, and runs its lines with the models of the other chapters, not with the program.

// modelOffice is what a script has made so far.
type modelOffice struct {
	roads    []impl.Road
	coaches  [][]impl.Stop
	bookings []impl.Booking
}

// clocksOnce are the clocks of all times, which are wound on just once.
var clocksOnce = sync.OnceValue(modelClocks)

// numberWord is how a number is written.
var numberWord = regexp.MustCompile(`^[0-9]{1,5}$`)

// modelWord returns the number that a word counts as.
func modelWord(word string) int {
	if !numberWord.MatchString(word) {
		return 99999
	}
	number, _ := strconv.Atoi(word)
	return number
}

// modelTimetable reports whether stops are a timetable of the towns of a script.
func modelTimetable(stops []impl.Stop) bool {
	if len(stops) < 2 || len(stops) > 8 {
		return false
	}
	last, been := -1, map[int]bool{}
	for _, s := range stops {
		if s.Town > 5 || been[s.Town] || s.Arrive <= last || s.Leave < s.Arrive || s.Leave > 10000 {
			return false
		}
		last, been[s.Town] = s.Leave, true
	}
	return true
}

// road, close, far and way do what the model knows of roads; no word of a script counts as less than 0.
func (o *modelOffice) road(n []int) (string, bool) {
	r := impl.Road{A: n[0], B: n[1], Miles: n[2]}
	if r.A >= r.B || r.B > 5 || r.Miles < 1 || r.Miles > 99 || modelMiles(o.roads, r.A, r.B) != -1 {
		return "", false
	}
	o.roads = append(o.roads, r)
	return "ok\n", true
}

func (o *modelOffice) close(n []int) (string, bool) {
	if modelMiles(o.roads, n[0], n[1]) == -1 {
		return "", false
	}
	o.roads = slices.DeleteFunc(o.roads, func(r impl.Road) bool {
		return r.A == n[0] && r.B == n[1] || r.A == n[1] && r.B == n[0]
	})
	return "ok\n", true
}

func (o *modelOffice) shortest(n []int) ([][]int, int) {
	if n[0] > 5 || n[1] > 5 {
		return nil, -1
	}
	return modelShortest(roadMap{"script", 6, o.roads}, n[0], n[1])
}

func (o *modelOffice) far(n []int) (string, bool) {
	_, far := o.shortest(n)
	return fmt.Sprintln(far), far != -1
}

func (o *modelOffice) way(n []int) (string, bool) {
	ways, far := o.shortest(n)
	if far == -1 {
		return "", false
	}
	return strings.Trim(fmt.Sprint(ways[0]), "[]") + "\n", true
}

// coach, clocks, post and ride do what the model knows of coaches.
func (o *modelOffice) coach(n []int) (string, bool) {
	stops := byCoach(n...)
	if len(o.coaches) == 6 || !modelTimetable(stops) {
		return "", false
	}
	o.coaches = append(o.coaches, stops)
	return "ok\n", true
}

func (o *modelOffice) clocks() (string, bool) {
	text := ""
	for _, stops := range o.coaches {
		text += modelText(clocksOnce(), stops) + "\n"
	}
	return text, true
}

func (o *modelOffice) times(n []int) (sentLetter, []int, bool) {
	c := sentLetter{coachNet{"script", 6, o.coaches}, n[0], n[2], n[3]}
	if n[0] > 5 || n[1] > 5 || n[2] > 10000 || n[3] > 300 {
		return c, nil, false
	}
	times := modelTimes(c)
	return c, times, times[n[1]] != -1
}

func (o *modelOffice) post(n []int) (string, bool) {
	_, times, ok := o.times(n)
	if !ok {
		return "", false
	}
	return fmt.Sprintln(times[n[1]]), true
}

func (o *modelOffice) ride(n []int) (string, bool) {
	c, times, ok := o.times(n)
	if !ok {
		return "", false
	}
	text := ""
	for _, r := range modelWay(c, times, n[1]) {
		text += fmt.Sprintf(" %d:%d-%d", r.Coach, r.From, r.To)
	}
	return strings.TrimPrefix(text, " ") + "\n", true
}

// book and seats do what the model knows of bookings.
func (o *modelOffice) book(b impl.Booking) (string, bool) {
	longer := append(slices.Clone(o.bookings), b)
	if !modelValid(5, longer) {
		return "", false
	}
	o.bookings = longer
	return "ok\n", true
}

func (o *modelOffice) seats() (string, bool) {
	return strings.Trim(fmt.Sprint(modelMakeSeating(5, o.bookings)), "[]") + "\n", true
}

// modelLine runs a line of a word and numbers, and reports whether there is such a line.
func (o *modelOffice) modelLine(word string, n []int) (string, bool, bool) {
	text, ok, known := "", false, true
	switch {
	case word == "road" && len(n) == 3:
		text, ok = o.road(n)
	case word == "close" && len(n) == 2:
		text, ok = o.close(n)
	case word == "far" && len(n) == 2:
		text, ok = o.far(n)
	case word == "way" && len(n) == 2:
		text, ok = o.way(n)
	case word == "coach" && len(n) > 2 && len(n)%3 == 0:
		text, ok = o.coach(n)
	case word == "coaches" && len(n) == 0:
		text, ok = o.clocks()
	case word == "post" && len(n) == 4:
		text, ok = o.post(n)
	case word == "ride" && len(n) == 4:
		text, ok = o.ride(n)
	case (word == "inside" || word == "outside") && len(n) == 2:
		text, ok = o.book(impl.Booking{From: n[0], To: n[1], Inside: word == "inside"})
	case word == "seats" && len(n) == 0:
		text, ok = o.seats()
	default:
		known = false
	}
	return text, ok, known
}

// modelWords returns what is between the spaces of a line.
func modelWords(line []byte) []string {
	words, begin := []string{}, 0
	for i := range len(line) + 1 {
		if i == len(line) || line[i] == ' ' {
			words, begin = append(words, string(line[begin:i])), i+1
		}
	}
	return words
}

// modelAnswers returns the output of each whole line of a script with its word and how it ended, and what has been made.
func modelAnswers(text string) ([]string, []string, *modelOffice) {
	o, line := &modelOffice{}, []byte{}
	answers, ends := []string{}, []string{}
	for _, b := range []byte(text) {
		if b != '\n' {
			line = append(line, b)
			continue
		}
		words, n := modelWords(line), []int{}
		for _, word := range words[1:] {
			n = append(n, modelWord(word))
		}
		answer, ok, known := o.modelLine(words[0], n)
		end := words[0] + " ok"
		switch {
		case !known:
			answer, end = "what\n", "what"
		case !ok:
			answer, end = "no\n", words[0]+" no"
		}
		answers, ends, line = append(answers, answer), append(ends, end), line[:0]
	}
	return answers, ends, o
}

// modelExecute returns the output of a script.
func modelExecute(text string) string {
	if len(text) > 500 {
		return "too long\n"
	}
	answers, _, o := modelAnswers(text)
	return strings.Join(answers, "") + countsLine(len(o.roads), len(o.coaches), len(o.bookings)) + "\n"
}

func TestModelOfScripts(t *testing.T) {
	number := map[string]int{}
	eachScript(t, func(t *testing.T, text string) {
		if got, want := impl.Execute(text), modelExecute(text); got != want {
			t.Errorf("Execute: got %q, want %q", got, want)
		}
		_, ends, _ := modelAnswers(text)
		for _, end := range ends {
			number[end]++
		}
	})
	for _, word := range []string{"road", "close", "far", "way", "coach", "post", "ride", "inside", "outside"} {
		if number[word+" ok"] < 500 || number[word+" no"] < 500 {
			t.Errorf("the line %s succeeds %d times and fails %d times", word, number[word+" ok"], number[word+" no"])
		}
	}
	if number["coaches ok"] < 500 || number["seats ok"] < 500 || number["what"] < 500 {
		t.Errorf("the ends of the lines are %v", number)
	}
}

// TestModelOfLastLine holds scripts that are cut off at each byte against the model.
func TestModelOfLastLine(t *testing.T) {
	for _, c := range slices.Concat(namedScripts(), mixedScripts(20)) {
		for end := range len(c.text) {
			if got, want := impl.Execute(c.text[:end]), modelExecute(c.text[:end]); got != want {
				t.Fatalf("%s: Execute of the first %d bytes of %q: got %q, want %q", c.name, end, c.text, got, want)
			}
		}
	}
}

// TestModelOfOtherBytes holds scripts with a byte put in the place of another one against the model.
func TestModelOfOtherBytes(t *testing.T) {
	s := &numbers{state: 277}
	for _, c := range slices.Concat(namedScripts(), mixedScripts(60)) {
		for range 40 {
			other := []byte(c.text)
			if len(other) == 0 {
				continue
			}
			b := byte(s.below(256))
			if s.below(2) == 0 {
				b = " \n\t\r09-+:.aR"[s.below(12)]
			}
			other[s.below(len(other))] = b
			if got, want := impl.Execute(string(other)), modelExecute(string(other)); got != want {
				t.Fatalf("%s: Execute of %q: got %q, want %q", c.name, other, got, want)
			}
		}
	}
}
