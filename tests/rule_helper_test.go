package tests

import (
	"math"
	"math/rand"
	"regexp"
	"slices"
	"strconv"
	"strings"

	"loop.example/dunsched/impl"
)

type rule = impl.CalRule

// example is the calendar of the document's example.
func example() []rule {
	return []rule{{Every: 5, At: 2, From: 0, To: 40, But: []int{12}}, {Every: 20, At: 0, From: 10, To: 100}}
}

const exampleText = "every 5 at 2 from 0 to 40 but 12\nevery 20 at 0 from 10 to 100\n"

// oddTicks are the edges of ticks, and ints that wrap round when one is added or taken away.
func oddTicks() []int {
	return []int{math.MinInt, math.MinInt + 1, -impl.CalMaxTick, -1001, -3, -1, 0, 1, 2, 999, 1000, 1001,
		impl.CalMaxTick - 1, impl.CalMaxTick, impl.CalMaxTick + 1, 1 << 40, math.MaxInt - 1, math.MaxInt}
}

// plainOk says by the words of the document whether rules are ok.
func plainOk(rules []rule) bool {
	if len(rules) < 1 || len(rules) > 4 {
		return false
	}
	for _, r := range rules {
		if r.Every < 1 || r.Every > 1000 || r.At < 0 || r.At > r.Every-1 || r.From < 0 || r.From > 100000 || r.To < r.From || r.To > 100000 || len(r.But) > 8 {
			return false
		}
		for i, b := range r.But {
			if b < 0 || b > 100000 || i > 0 && r.But[i-1] >= b {
				return false
			}
		}
	}
	return true
}

// plainDue says by the words of the document whether a tick is due.
func plainDue(rules []rule, tick int) bool {
	if !plainOk(rules) {
		return false
	}
	for _, r := range rules {
		if tick >= r.From && tick <= r.To && tick%r.Every == r.At && !slices.Contains(r.But, tick) {
			return true
		}
	}
	return false
}

func plainNext(rules []rule, tick int) int {
	for t := 0; t <= impl.CalMaxTick; t++ {
		if t > tick && plainDue(rules, t) {
			return t
		}
	}
	return -1
}

func plainCount(rules []rule, from int, to int) int {
	n := 0
	for t := 0; t <= impl.CalMaxTick; t++ {
		if t > from && t <= to && plainDue(rules, t) {
			n++
		}
	}
	return n
}

var (
	lineForm = regexp.MustCompile(`^every (\d+) at (\d+) from (\d+) to (\d+)(?: but((?: \d+)+))?$`)
	numeral  = regexp.MustCompile(`^(0|[1-9][0-9]*)$`)
)

// plainRead reads a text by the words of the document, another way than the program does.
func plainRead(text string) ([]rule, bool) {
	body, ended := strings.CutSuffix(text, "\n")
	if !ended || len(text) > 800 {
		return nil, false
	}
	var rules []rule
	for _, line := range strings.Split(body, "\n") {
		m := lineForm.FindStringSubmatch(line)
		if m == nil {
			return nil, false
		}
		var numbers []int
		for _, word := range append(slices.Clone(m[1:5]), strings.Fields(m[5])...) {
			n, err := strconv.Atoi(word)
			if err != nil || !numeral.MatchString(word) {
				return nil, false
			}
			numbers = append(numbers, n)
		}
		rules = append(rules, rule{Every: numbers[0], At: numbers[1], From: numbers[2], To: numbers[3], But: numbers[4:]})
	}
	if !plainOk(rules) {
		return nil, false
	}
	return rules, true
}

func sameRules(a []rule, b []rule) bool {
	return slices.EqualFunc(a, b, func(x, y rule) bool {
		return x.Every == y.Every && x.At == y.At && x.From == y.From && x.To == y.To && slices.Equal(x.But, y.But)
	})
}

func cloneRules(rules []rule) []rule {
	out := slices.Clone(rules)
	for i := range out {
		out[i].But = slices.Clone(out[i].But)
	}
	return out
}

// someRules makes ok rules; their ticks lie close together, so that they often coincide and are often left out.
func someRules(source *rand.Rand, span int) []rule {
	rules := make([]rule, 1+source.Intn(impl.CalMaxRules))
	for i := range rules {
		r := &rules[i]
		r.Every = 1 + source.Intn(min(span/3+1, impl.CalMaxEvery))
		r.At = source.Intn(r.Every)
		r.From = source.Intn(span)
		r.To = r.From + source.Intn(span)
		first := r.From - r.From%r.Every + r.At
		for range source.Intn(impl.CalMaxBut + 1) {
			if source.Intn(4) > 0 {
				r.But = append(r.But, first+r.Every*source.Intn(10))
			} else {
				r.But = append(r.But, source.Intn(2*span))
			}
		}
		slices.Sort(r.But)
		r.But = slices.Compact(r.But)
	}
	return rules
}

// badRules are rules that are not ok, each for one reason, beside ok ones.
func badRules() map[string][]rule {
	good := rule{Every: 3, At: 1, From: 0, To: 50, But: []int{4}}
	with := func(change func(r *rule)) []rule {
		bad := good
		bad.But = slices.Clone(good.But)
		change(&bad)
		return []rule{good, bad, good}
	}
	return map[string][]rule{
		"nil":               nil,
		"none":              {},
		"five":              {good, good, good, good, good},
		"five of nothing":   make([]rule, 5),
		"nothing":           {{}},
		"every 0":           with(func(r *rule) { r.Every, r.At = 0, 0 }),
		"every below 0":     with(func(r *rule) { r.Every, r.At = -3, -4 }),
		"every least":       with(func(r *rule) { r.Every = math.MinInt }),
		"every 1001":        with(func(r *rule) { r.Every = impl.CalMaxEvery + 1 }),
		"at is every":       with(func(r *rule) { r.At = 3 }),
		"at below 0":        with(func(r *rule) { r.At = -1 }),
		"from below 0":      with(func(r *rule) { r.From = -1 }),
		"from above":        with(func(r *rule) { r.From, r.To = impl.CalMaxTick+1, impl.CalMaxTick+1 }),
		"to below from":     with(func(r *rule) { r.From, r.To = 20, 19 }),
		"to above":          with(func(r *rule) { r.To = impl.CalMaxTick + 1 }),
		"to greatest":       with(func(r *rule) { r.To = math.MaxInt }),
		"nine left out":     with(func(r *rule) { r.But = []int{1, 2, 3, 4, 5, 6, 7, 8, 9} }),
		"but below 0":       with(func(r *rule) { r.But = []int{-1, 4} }),
		"but above":         with(func(r *rule) { r.But = []int{4, impl.CalMaxTick + 1} }),
		"but twice":         with(func(r *rule) { r.But = []int{4, 4} }),
		"but descending":    with(func(r *rule) { r.But = []int{7, 4} }),
		"but late descends": with(func(r *rule) { r.But = []int{1, 4, 7, 10, 13, 16, 22, 19} }),
	}
}
