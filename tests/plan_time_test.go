package tests

import (
	"fmt"
	"math/rand"
	"slices"
	"testing"

	"loop.example/dunsched/impl"
)

// ledger is all that the answers told of a plan from PlanNew on.
type ledger struct {
	from int
	told []told
}

// check holds P1 against a plan that has come so far.
func (l ledger) check(p plan) error {
	first, over := map[int]int{}, map[int]int{}
	began := map[int]bool{}
	for _, x := range l.told {
		switch x.What {
		case impl.TimeBegan, impl.TimeSkipped, impl.TimeMissed:
			first[x.Tick]++
			began[x.Tick] = x.What == impl.TimeBegan
		case impl.TimeStopped, impl.TimeEnded:
			if !began[x.Tick] {
				return fmt.Errorf("%d is over and never began", x.Tick)
			}
			over[x.Tick]++
		default:
			return fmt.Errorf("%d was told of %d", x.What, x.Tick)
		}
	}
	for _, tick := range p.Waits {
		first[tick]++
	}
	for _, tick := range p.Goes {
		if !began[tick] {
			return fmt.Errorf("%d goes on and never began", tick)
		}
		over[tick]++
	}
	for tick := range first {
		if !plainDue(p.Rules, tick) || tick <= l.from || tick > p.Last {
			return fmt.Errorf("%d is no time of the plan", tick)
		}
	}
	for tick := l.from + 1; tick <= p.Last; tick++ {
		if plainDue(p.Rules, tick) && first[tick] != 1 {
			return fmt.Errorf("%d things became of %d", first[tick], tick)
		}
		if began[tick] && over[tick] != 1 {
			return fmt.Errorf("what began at %d goes on or is over %d times", tick, over[tick])
		}
	}
	if len(p.Goes) > mostGoes[p.Policy] || len(p.Waits) > mostWaits[p.Policy] {
		return fmt.Errorf("%v go on and %v wait", p.Goes, p.Waits)
	}
	return nil
}

// checkInTime holds P2 against what a call told.
func checkInTime(p plan, news []told) error {
	for _, x := range news {
		if late := p.Last - x.Tick; x.What == impl.TimeBegan && late > p.Window || x.What == impl.TimeMissed && late <= p.Window {
			return fmt.Errorf("%v at %d with a window of %d", x, p.Last, p.Window)
		}
	}
	return nil
}

// someEnd chooses what ends: the first or a later one that goes on, one that waits, one that was told, or any tick.
func someEnd(source *rand.Rand, p plan) int {
	lists := [][]int{p.Goes, p.Goes, p.Waits}
	list := lists[source.Intn(len(lists))]
	switch {
	case len(list) > 0 && source.Intn(8) > 0:
		return list[source.Intn(len(list))]
	case len(p.Told) > 0 && source.Intn(2) > 0:
		return p.Told[source.Intn(len(p.Told))].Tick
	}
	return p.Last + source.Intn(40) - 20
}

// P1, P2, P6 and P7, and each answer against the document: plans looked at often, seldom and late, with ends between.
func TestCourses(t *testing.T) {
	source := rand.New(rand.NewSource(21))
	seen := map[string]int{}
	for _, policy := range allPolicies {
		for _, window := range []int{0, 1, 3, 10, 40, impl.PlanMaxWindow} {
			for _, stride := range []int{2, 6, 20, 80} {
				for _, ends := range []int{0, 1, 3} {
					for _, rules := range [][]rule{someRules(source, 100), someRules(source, 80), someRules(source, 20), each(2, 170)} {
						p := begun(t, rules, policy, window, source.Intn(30)-1)
						follow(t, source, p, stride, ends, seen)
					}
				}
			}
		}
	}
	for _, policy := range allPolicies {
		for _, what := range []string{"1", "2", "3", "4", "5", "cut"} {
			never := what == "4" && policy != 5 || what == "2" && policy == 5
			if n := seen[fmt.Sprint(policy, " ", what)]; (n < 20) != never {
				t.Errorf("policy %d: %s is seen %d times", policy, what, n)
			}
		}
	}
}

// follow goes through the times of a plan: a step is at most stride long, of four steps so many are ends.
func follow(t *testing.T, source *rand.Rand, p plan, stride int, ends int, seen map[string]int) {
	t.Helper()
	right, book := courseOf(p), ledger{from: p.Last}
	for p.Last < 200 {
		now := p.Last + source.Intn(stride+2) - 1
		var news, want []told
		if source.Intn(4) < ends {
			tick := someEnd(source, p)
			p, news = impl.PlanEnds(p, tick, now)
			want = right.ends(tick, now)
		} else {
			p, news = impl.PlanTick(p, now)
			want = right.look(now)
		}
		if !slices.Equal(news, want) || !samePlan(p, right.plan()) {
			t.Fatalf("at %d: %v told %v, not %v told %v", now, p, news, right.plan(), want)
		}
		book.told = append(book.told, news...)
		if source.Intn(6) == 0 || p.Last >= 200 {
			if err := book.check(p); err != nil {
				t.Fatalf("at %d: %v: %v", now, p, err)
			}
		}
		if err := checkInTime(p, news); err != nil {
			t.Fatalf("at %d: %v: %v", now, p, err)
		}
		if !impl.PlanOk(p) || !plainPlanOk(p) || impl.PlanBoard(p) == "" {
			t.Fatalf("at %d: not ok: %v", now, p)
		}
		for _, x := range news {
			seen[fmt.Sprint(p.Policy, " ", x.What)]++
		}
	}
	if len(book.told) > impl.PlanMaxTold {
		seen[fmt.Sprint(p.Policy, " cut")]++
	}
}

// P6, and each answer against the document, of any plan that is ok, however it came to be.
func TestStepsOfAnyPlan(t *testing.T) {
	source := rand.New(rand.NewSource(22))
	for i := range 10000 {
		p := somePlan(source, allPolicies[i%5])
		now, tick := p.Last+source.Intn(50)-5, someEnd(source, p)
		after, news := impl.PlanTick(p, now)
		right := courseOf(p)
		if want := right.look(now); !slices.Equal(news, want) || !samePlan(after, right.plan()) {
			t.Fatalf("%v at %d: %v told %v, not %v", p, now, after, news, want)
		}
		ended, more := impl.PlanEnds(p, tick, now)
		right = courseOf(p)
		if want := right.ends(tick, now); !slices.Equal(more, want) || !samePlan(ended, right.plan()) {
			t.Fatalf("%v, %d ends at %d: %v told %v, not %v", p, tick, now, ended, more, want)
		}
		if !plainPlanOk(after) || !impl.PlanOk(after) || !plainPlanOk(ended) || !impl.PlanOk(ended) {
			t.Fatalf("%v is ok, and %v or %v is not", p, after, ended)
		}
		if checkInTime(after, news) != nil || checkInTime(ended, more) != nil {
			t.Fatalf("%v at %d: %v, %v", p, now, news, more)
		}
	}
}

// P3.
func TestLookedAtTwice(t *testing.T) {
	source := rand.New(rand.NewSource(23))
	for i := range 10000 {
		p := somePlan(source, allPolicies[i%5])
		for _, now := range []int{p.Last, p.Last - 1, p.Last - source.Intn(20)} {
			if same, news := impl.PlanTick(p, now); !samePlan(same, p) || len(news) != 0 {
				t.Fatalf("%v at %d: %v told %v", p, now, same, news)
			}
		}
		later := min(p.Last+source.Intn(p.Window+1), p.Last+200)
		if i%7 == 0 {
			later = p.Last + p.Window
		}
		once, whole := impl.PlanTick(p, later)
		again, none := impl.PlanTick(once, later)
		if !samePlan(again, once) || len(none) != 0 {
			t.Fatalf("%v at %d again: %v told %v", once, later, again, none)
		}
		first := p.Last - 2 + source.Intn(later-p.Last+3)
		half, news := impl.PlanTick(p, first)
		twice, more := impl.PlanTick(half, later)
		if !samePlan(twice, once) || !slices.Equal(append(news, more...), whole) {
			t.Fatalf("%v at %d, then at %d: %v, not %v", p, first, later, twice, once)
		}
	}
}

func TestExampleCourse(t *testing.T) {
	p := begun(t, example(), impl.PlanWaitOne, 6, 0)
	for _, c := range []struct {
		tick, now   int
		news        string
		goes, waits string
	}{
		{-1, 3, "[{2 1}]", "[2]", "[]"},
		{-1, 18, "[{7 3}]", "[2]", "[17]"},
		{-1, 20, "[{20 2}]", "[2]", "[17]"},
		{2, 21, "[{2 5} {17 1}]", "[17]", "[]"},
		{17, 36, "[{22 3} {27 3} {17 5} {32 1}]", "[32]", "[]"},
	} {
		var news []told
		if c.tick < 0 {
			p, news = impl.PlanTick(p, c.now)
		} else {
			p, news = impl.PlanEnds(p, c.tick, c.now)
		}
		if fmt.Sprint(news) != c.news || fmt.Sprint(p.Goes) != c.goes || fmt.Sprint(p.Waits) != c.waits || p.Last != c.now {
			t.Errorf("at %d: %v told %v", c.now, p, news)
		}
	}
}
