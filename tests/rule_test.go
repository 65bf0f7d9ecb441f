package tests

import (
	"math"
	"math/rand"
	"testing"

	"loop.example/dunsched/impl"
)

func TestOkMeetsEachLimit(t *testing.T) {
	full := rule{Every: impl.CalMaxEvery, At: impl.CalMaxEvery - 1, From: 0, To: impl.CalMaxTick, But: []int{0, 1, 2, 3, 4, 5, 6, impl.CalMaxTick}}
	for name, rules := range map[string][]rule{
		"example":           example(),
		"least":             {{Every: 1}},
		"full":              {full},
		"four":              {full, full, full, full},
		"one tick":          {{Every: 1, From: impl.CalMaxTick, To: impl.CalMaxTick}},
		"no tick":           {{Every: 1000, At: 7, From: 8, To: 1006}},
		"left out, no tick": {{Every: 10, At: 3, From: 50, To: 60, But: []int{0, 4, 99, 100000}}},
		"empty but":         {{Every: 2, At: 1, From: 3, To: 5, But: []int{}}},
	} {
		if !impl.CalOk(rules) {
			t.Errorf("%s: not ok", name)
		}
	}
}

func TestNotOkHasFixedAnswers(t *testing.T) {
	for name, rules := range badRules() {
		if impl.CalOk(rules) {
			t.Errorf("%s: ok", name)
		}
		if text := impl.CalWrite(rules); text != "" {
			t.Errorf("%s: written %q", name, text)
		}
		for _, tick := range append(oddTicks(), 4, 7, 10) {
			if impl.CalDue(rules, tick) {
				t.Errorf("%s: %d is due", name, tick)
			}
			if next := impl.CalNext(rules, tick); next != -1 {
				t.Errorf("%s: behind %d comes %d", name, tick, next)
			}
			if count := impl.CalCount(rules, tick, math.MaxInt); count != 0 {
				t.Errorf("%s: %d behind %d", name, count, tick)
			}
		}
	}
}

func TestOkIsAskedOfEachRule(t *testing.T) {
	good, bad := rule{Every: 3, At: 1, From: 0, To: 50}, rule{Every: 3, At: 3, From: 0, To: 50}
	for place := range impl.CalMaxRules {
		rules := []rule{good, good, good, good}
		if !impl.CalOk(rules) {
			t.Fatal("good rules are not ok")
		}
		rules[place] = bad
		if impl.CalOk(rules) {
			t.Errorf("a bad rule at place %d is ok", place)
		}
	}
}

func TestExampleTicks(t *testing.T) {
	want := []int{2, 7, 17, 20, 22, 27, 32, 37, 40, 60, 80, 100}
	tick := -1
	for i, w := range want {
		tick = impl.CalNext(example(), tick)
		if tick != w {
			t.Fatalf("tick %d is %d, not %d", i, tick, w)
		}
		if count := impl.CalCount(example(), -1, tick); count != i+1 {
			t.Errorf("%d up to %d", count, tick)
		}
	}
	if next := impl.CalNext(example(), tick); next != -1 {
		t.Errorf("behind the last comes %d", next)
	}
}

func TestTicksBelowZero(t *testing.T) {
	rules := []rule{{Every: 7, At: 3, From: 0, To: 30}}
	for _, tick := range []int{-1, -4, -7, -11, -100000, math.MinInt + 1, math.MinInt} {
		if impl.CalDue(rules, tick) {
			t.Errorf("%d is due", tick)
		}
		if next := impl.CalNext(rules, tick); next != 3 {
			t.Errorf("behind %d comes %d", tick, next)
		}
		if count := impl.CalCount(rules, tick, 10); count != 2 {
			t.Errorf("%d behind %d", count, tick)
		}
		if count := impl.CalCount(rules, math.MinInt, tick); count != 0 {
			t.Errorf("%d up to %d", count, tick)
		}
	}
	if zero := []rule{{Every: 5, To: 9}}; !impl.CalDue(zero, 0) || impl.CalNext(zero, -1) != 0 || impl.CalNext(zero, 0) != 5 || impl.CalCount(zero, -1, 0) != 1 || impl.CalCount(zero, -2, -1) != 0 {
		t.Error("the tick 0")
	}
}

func TestTicksAboveTheGreatest(t *testing.T) {
	rules := []rule{{Every: 1000, At: 0, From: 99000, To: impl.CalMaxTick}}
	if impl.CalNext(rules, 99999) != 100000 || !impl.CalDue(rules, 100000) || impl.CalCount(rules, 99999, math.MaxInt) != 1 {
		t.Error("the greatest tick")
	}
	for _, tick := range []int{impl.CalMaxTick, impl.CalMaxTick + 1, 101000, 1 << 40, math.MaxInt - 1, math.MaxInt} {
		if impl.CalDue(rules, tick) != (tick == impl.CalMaxTick) {
			t.Errorf("due %d", tick)
		}
		if next := impl.CalNext(rules, tick); next != -1 {
			t.Errorf("behind %d comes %d", tick, next)
		}
		if count := impl.CalCount(rules, tick, math.MaxInt); count != 0 {
			t.Errorf("%d behind %d", count, tick)
		}
		if count := impl.CalCount(rules, math.MinInt, tick); count != 2 {
			t.Errorf("%d up to %d", count, tick)
		}
	}
}

func TestFromAndToAreWithin(t *testing.T) {
	rules := []rule{{Every: 4, At: 0, From: 8, To: 16}}
	for _, tick := range []int{4, 7, 8, 9, 12, 16, 17, 20} {
		if impl.CalDue(rules, tick) != (tick == 8 || tick == 12 || tick == 16) {
			t.Errorf("due %d", tick)
		}
	}
	for _, c := range []struct{ from, to, count int }{{8, 16, 2}, {7, 16, 3}, {7, 15, 2}, {7, 8, 1}, {8, 8, 0}, {16, 16, 0}, {16, 8, 0}, {17, 100, 0}, {12, 7, 0}, {math.MaxInt, math.MinInt, 0}, {math.MinInt, math.MaxInt, 3}} {
		if count := impl.CalCount(rules, c.from, c.to); count != c.count {
			t.Errorf("%d from %d to %d", count, c.from, c.to)
		}
	}
}

func TestLeftOutOneBehindTheOther(t *testing.T) {
	for name, c := range map[string]struct {
		but   []int
		ticks []int
	}{
		"at the beginning": {[]int{3, 13, 23}, []int{33, 43, 53, 63, 73}},
		"in the middle":    {[]int{13, 23, 33, 43, 53}, []int{3, 63, 73}},
		"at the end":       {[]int{53, 63, 73}, []int{3, 13, 23, 33, 43}},
		"all":              {[]int{3, 13, 23, 33, 43, 53, 63, 73}, nil},
		"all but one":      {[]int{3, 13, 23, 33, 53, 63, 73}, []int{43}},
		"none of them":     {[]int{4, 14, 24, 34}, []int{3, 13, 23, 33, 43, 53, 63, 73}},
	} {
		rules := []rule{{Every: 10, At: 3, From: 0, To: 79, But: c.but}}
		tick := -1
		for _, w := range append(c.ticks, -1) {
			if tick = impl.CalNext(rules, tick); tick != w {
				t.Errorf("%s: %d instead of %d", name, tick, w)
			}
		}
		if count := impl.CalCount(rules, -1, 79); count != len(c.ticks) {
			t.Errorf("%s: %d", name, count)
		}
		for _, b := range c.but {
			if impl.CalDue(rules, b) {
				t.Errorf("%s: %d is due", name, b)
			}
		}
	}
}

func TestTicksThatCoincide(t *testing.T) {
	six, four := rule{Every: 6, At: 0, From: 0, To: 48, But: []int{12}}, rule{Every: 4, At: 0, From: 0, To: 48, But: []int{24, 36}}
	both := []rule{six, four, six, four}
	// 12 is left out of the one but not of the other, and so are 24 and 36.
	want := []int{0, 4, 6, 8, 12, 16, 18, 20, 24, 28, 30, 32, 36, 40, 42, 44, 48, -1}
	tick := -1
	for _, w := range want {
		if tick = impl.CalNext(both, tick); tick != w {
			t.Fatalf("%d instead of %d", tick, w)
		}
	}
	if count := impl.CalCount(both, -1, 48); count != len(want)-1 {
		t.Errorf("%d", count)
	}
	six.But, four.But = []int{24}, []int{24}
	if left := []rule{six, four}; impl.CalDue(left, 24) || impl.CalNext(left, 20) != 28 {
		t.Error("left out of both, and due")
	}
}

func TestAllTicks(t *testing.T) {
	all := rule{Every: 1, From: 0, To: impl.CalMaxTick}
	for n := 1; n <= impl.CalMaxRules; n++ {
		rules := []rule{all, all, all, all}[:n]
		if count := impl.CalCount(rules, math.MinInt, math.MaxInt); count != impl.CalMaxTick+1 {
			t.Errorf("%d rules: %d", n, count)
		}
	}
	if impl.CalCount([]rule{all}, 0, impl.CalMaxTick) != impl.CalMaxTick || impl.CalCount([]rule{all}, -1, impl.CalMaxTick-1) != impl.CalMaxTick {
		t.Error("an end")
	}
}

// P4, held against the words of the document, tick by tick.
func TestNextAndCountAgainstDue(t *testing.T) {
	source := rand.New(rand.NewSource(4))
	for range 400 {
		span := 10 + source.Intn(60)
		rules := someRules(source, span)
		if !plainOk(rules) || !impl.CalOk(rules) {
			t.Fatalf("not ok: %v", rules)
		}
		next, counts := -1, make([]int, 2*span+6)
		for tick := 2*span + 2; tick >= -3; tick-- {
			if got := impl.CalNext(rules, tick); got != next {
				t.Fatalf("%v: behind %d comes %d, not %d", rules, tick, got, next)
			}
			due := plainDue(rules, tick)
			if impl.CalDue(rules, tick) != due {
				t.Fatalf("%v: due %d is not %v", rules, tick, due)
			}
			if due {
				next = tick
			}
		}
		for tick := -2; tick <= 2*span+2; tick++ {
			counts[tick+3] = counts[tick+2]
			if plainDue(rules, tick) {
				counts[tick+3]++
			}
		}
		for from := -3; from <= 2*span+2; from++ {
			for to := from - 2; to <= 2*span+2; to += 1 + source.Intn(5) {
				want := max(0, counts[max(to, -3)+3]-counts[from+3])
				if got := impl.CalCount(rules, from, to); got != want {
					t.Fatalf("%v: %d above %d up to %d, not %d", rules, got, from, to, want)
				}
			}
		}
	}
}

func TestNextAndCountAtOddTicks(t *testing.T) {
	source := rand.New(rand.NewSource(5))
	for range 6 {
		rules := someRules(source, impl.CalMaxTick/2)
		for _, tick := range oddTicks() {
			if got, want := impl.CalNext(rules, tick), plainNext(rules, tick); got != want {
				t.Fatalf("%v: behind %d comes %d, not %d", rules, tick, got, want)
			}
			to := oddTicks()[source.Intn(len(oddTicks()))]
			if got, want := impl.CalCount(rules, tick, to), plainCount(rules, tick, to); got != want {
				t.Fatalf("%v: %d above %d up to %d, not %d", rules, got, tick, to, want)
			}
		}
	}
}
