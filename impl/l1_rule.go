// Package impl: when something begins, again and again, and what is done when it still goes on.
package impl

import (
	"cmp"
	"errors"
	"iter"
	"slices"
	"strconv"
	"strings"
)

// Limits of calendars.
const (
	CalMaxRules = 4
	CalMaxBut   = 8
	CalMaxEvery = 1000
	CalMaxTick  = 100000
	CalMaxText  = 800
)

// CalRule is ticks: every so many, at one of these, from a tick to a tick, but not some.
type CalRule struct {
	Every int
	At    int
	From  int
	To    int
	But   []int
}

// What can be wrong with a line.
var (
	errMissing = errors.New("a rule is missing")
	errMany    = errors.New("one rule too many")
	errBounds  = errors.New("a number out of its bounds")
	errBut     = errors.New("too many ticks left out, or not ascending")
	errSize    = errors.New("the text is too long")
	errNewline = errors.New("no newline at the end")
	errForm    = errors.New("not the form of a rule")
	errNumber  = errors.New("not a number as it is written")
)

// lineError is what is wrong, and in which line; the line of a rule is the one that CalWrite gives it.
type lineError struct {
	line int
	why  error
}

func (e lineError) Error() string {
	return "line " + strconv.Itoa(e.line) + ": " + e.why.Error()
}

func (e lineError) Unwrap() error {
	return e.why
}

// wrongLine is the line that an error carries; 0, which is no line, if nothing is wrong.
func wrongLine(err error) int {
	var wrong lineError
	if errors.As(err, &wrong) {
		return wrong.line
	}
	return 0
}

// CalOk says whether rules are ok.
func CalOk(rules []CalRule) bool {
	return wrongLine(checkRules(rules)) == 0
}

func checkRules(rules []CalRule) error {
	if len(rules) == 0 {
		return lineError{1, errMissing}
	}
	if len(rules) > CalMaxRules {
		return lineError{CalMaxRules + 1, errMany}
	}
	for i, rule := range rules {
		if err := checkRule(rule); err != nil {
			return lineError{i + 1, err}
		}
	}
	return nil
}

func checkRule(rule CalRule) error {
	inBounds := within(rule.Every, 1, CalMaxEvery) &&
		within(rule.At, 0, rule.Every-1) &&
		within(rule.From, 0, CalMaxTick) &&
		within(rule.To, rule.From, CalMaxTick)
	if !inBounds {
		return errBounds
	}
	return checkBut(rule.But)
}

func checkBut(but []int) error {
	if len(but) > CalMaxBut || !ascending(but) {
		return errBut
	}
	for _, tick := range but {
		if !within(tick, 0, CalMaxTick) {
			return errBounds
		}
	}
	return nil
}

func ascending(ticks []int) bool {
	for i := 1; i < len(ticks); i++ {
		if ticks[i] <= ticks[i-1] {
			return false
		}
	}
	return true
}

func within(n int, low int, high int) bool {
	return low <= n && n <= high
}

// CalDue says whether a tick is one of rules.
func CalDue(rules []CalRule, tick int) bool {
	// No tick below 0 is due; without asking so, the least int would wrap round.
	return tick >= 0 && CalNext(rules, tick-1) == tick
}

// CalNext is the first tick of rules behind a tick, -1 if there is none.
func CalNext(rules []CalRule, tick int) int {
	for next := range dueAbove(rules, tick) {
		return next
	}
	return -1
}

// CalCount is how many ticks of rules there are behind a tick, up to another one.
func CalCount(rules []CalRule, from int, to int) int {
	count := 0
	for range dueBetween(rules, from, to) {
		count++
	}
	return count
}

// dueBetween tells the due ticks above from and not above to, ascending.
func dueBetween(rules []CalRule, from int, to int) iter.Seq[int] {
	return func(yield func(int) bool) {
		for tick := range dueAbove(rules, from) {
			if tick > to || !yield(tick) {
				return
			}
		}
	}
}

// dueAbove tells the due ticks above a tick, ascending; none, if the rules are not ok.
func dueAbove(rules []CalRule, tick int) iter.Seq[int] {
	if !CalOk(rules) {
		return merged(nil, tick, tickAbove)
	}
	return merged(rules, tick, tickAbove)
}

// merged tells what all sources hold above a value, ascending, so what several of them hold only once.
// above is the least that one source holds above a value, and whether there is one.
func merged[S any, T cmp.Ordered](sources []S, low T, above func(S, T) (T, bool)) iter.Seq[T] {
	return func(yield func(T) bool) {
		last := low
		for {
			least, found := leastAbove(sources, last, above)
			if !found || !yield(least) {
				return
			}
			last = least
		}
	}
}

func leastAbove[S any, T cmp.Ordered](sources []S, low T, above func(S, T) (T, bool)) (T, bool) {
	var least T
	found := false
	for _, source := range sources {
		value, ok := above(source, low)
		if ok && (!found || value < least) {
			least, found = value, true
		}
	}
	return least, found
}

// tickAbove is the least tick of an ok rule above a tick, and whether there is one.
func tickAbove(rule CalRule, tick int) (int, bool) {
	if tick >= rule.To { // asked first, as the greatest int has none above it
		return 0, false
	}
	start := max(tick+1, rule.From)
	first := start + (rule.At-start%rule.Every+rule.Every)%rule.Every
	for next := first; next <= rule.To; next += rule.Every {
		if !slices.Contains(rule.But, next) {
			return next, true
		}
	}
	return 0, false
}

// CalWrite writes rules.
func CalWrite(rules []CalRule) string {
	if !CalOk(rules) {
		return ""
	}
	text := ""
	for _, rule := range rules {
		text += ruleLine(rule)
	}
	return text
}

func ruleLine(rule CalRule) string {
	line := "every " + strconv.Itoa(rule.Every) + " at " + strconv.Itoa(rule.At) +
		" from " + strconv.Itoa(rule.From) + " to " + strconv.Itoa(rule.To)
	if len(rule.But) > 0 {
		line += " but" + spaced(rule.But)
	}
	return line + "\n"
}

// spaced writes ticks, a space ahead of each.
func spaced(ticks []int) string {
	text := ""
	for _, tick := range ticks {
		text += " " + strconv.Itoa(tick)
	}
	return text
}

// CalRead reads rules.
func CalRead(text string) ([]CalRule, bool) {
	rules, err := readRules(text)
	if wrongLine(err) != 0 {
		return nil, false
	}
	return rules, true
}

func readRules(text string) ([]CalRule, error) {
	if len(text) > CalMaxText {
		return nil, lineError{1 + strings.Count(text[:CalMaxText], "\n"), errSize}
	}
	var rules []CalRule
	start := 0
	for place, r := range text {
		if r != '\n' {
			continue
		}
		rule, err := readRule(text[start:place])
		if err != nil {
			return nil, lineError{len(rules) + 1, err}
		}
		rules = append(rules, rule)
		start = place + 1
	}
	if start < len(text) {
		return nil, lineError{len(rules) + 1, errNewline}
	}
	return rules, checkRules(rules)
}

// readRule reads a line without its newline. It asks for the form only: whether the rule is ok, checkRules says.
func readRule(line string) (CalRule, error) {
	names := [4]string{"every", "at", "from", "to"}
	var numbers [4]int
	words := strings.Split(line, " ")
	if len(words) < 2*len(names) {
		return CalRule{}, errForm
	}
	for i, name := range names {
		if words[2*i] != name {
			return CalRule{}, errForm
		}
		number, err := readNumber(words[2*i+1])
		if err != nil {
			return CalRule{}, err
		}
		numbers[i] = number
	}
	but, err := readBut(words[2*len(names):])
	if err != nil {
		return CalRule{}, err
	}
	return CalRule{Every: numbers[0], At: numbers[1], From: numbers[2], To: numbers[3], But: but}, nil
}

// readBut reads the words behind the four numbers of a rule, if there are any.
func readBut(words []string) ([]int, error) {
	if len(words) == 0 {
		return nil, nil
	}
	if words[0] != "but" || len(words) == 1 {
		return nil, errForm
	}
	var but []int
	for _, word := range words[1:] {
		tick, err := readNumber(word)
		if err != nil {
			return nil, err
		}
		but = append(but, tick)
	}
	return but, nil
}

func readNumber(word string) (int, error) {
	if word == "" || len(word) > 1 && word[0] == '0' {
		return 0, errNumber
	}
	number := 0
	for _, r := range word {
		if r < '0' || r > '9' {
			return 0, errNumber
		}
		number = 10*number + int(r-'0')
		if number > CalMaxTick { // none of a rule is greater; stopping here, no number wraps round into one that is ok
			return 0, errBounds
		}
	}
	return number, nil
}
