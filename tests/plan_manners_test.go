package tests

import (
	"fmt"
	"math/rand"
	"slices"
	"testing"

	"loop.example/dunsched/impl"
)

// A panic fails the test by itself.
func TestEveryPlanIsAnswered(t *testing.T) {
	source := rand.New(rand.NewSource(25))
	odd := append(oddTicks(), 3, 4, 5)
	pick := func() int { return odd[source.Intn(len(odd))] }
	for i := range 20000 {
		p := somePlan(source, allPolicies[i%5])
		for range source.Intn(3) {
			switch source.Intn(7) {
			case 0:
				p.Policy = pick()
			case 1:
				p.Window = pick()
			case 2:
				p.Last = pick()
			case 3:
				p.Goes = append(slices.Clone(p.Goes), pick())
			case 4:
				p.Waits = append(slices.Clone(p.Waits), pick())
			case 5:
				p.Told = append(slices.Clone(p.Told), told{Tick: pick(), What: pick()})
			case 6:
				p.Rules[0].To = pick()
			}
		}
		tick, now, ok := pick(), pick(), plainPlanOk(p)
		if impl.PlanOk(p) != ok || (impl.PlanBoard(p) != "") != ok {
			t.Fatalf("%v: ok is not %v", p, ok)
		}
		after, news := impl.PlanTick(p, now)
		ended, more := impl.PlanEnds(p, tick, now)
		if !ok && (!isNothing(after) || len(news) != 0 || !isNothing(ended) || len(more) != 0) {
			t.Fatalf("%v is not ok: %v %v, %v %v", p, after, news, ended, more)
		}
		if ok && (!plainPlanOk(after) || !plainPlanOk(ended)) {
			t.Fatalf("%v is ok, and %v or %v is not", p, after, ended)
		}
		first, okFirst := impl.PlanNew(p.Rules, p.Policy, p.Window, now)
		if want := (plan{Rules: p.Rules, Policy: p.Policy, Window: p.Window, Last: now}); okFirst != plainPlanOk(want) || okFirst && !samePlan(first, want) || !okFirst && !isNothing(first) {
			t.Fatalf("%v from %d: %v, %v", p, now, first, okFirst)
		}
	}
}

// piece is one list: it can be written over and shown, spare room included.
type piece struct {
	write func()
	show  func() string
}

func pieceOf[T any](list []T, junk T) piece {
	all := list[:cap(list)]
	return piece{
		write: func() {
			for i := range all {
				all[i] = junk
			}
		},
		show: func() string { return fmt.Sprint(all) },
	}
}

// pieces are all lists of a plan and of an answer; a rule is shown with the list that it leaves out.
func pieces(p plan, news []told) []piece {
	var all []piece
	for _, r := range p.Rules {
		all = append(all, pieceOf(r.But, -9))
	}
	all = append(all, pieceOf(p.Goes, -9), pieceOf(p.Waits, -9), pieceOf(p.Told, told{Tick: -9, What: -9}), pieceOf(news, told{Tick: -9, What: -9}))
	rules := p.Rules[:cap(p.Rules)]
	return append(all, piece{
		write: func() {
			for i := range rules {
				rules[i] = rule{Every: -9}
			}
		},
		show: func() string {
			text := ""
			for _, r := range rules {
				text += fmt.Sprint(r.Every, r.At, r.From, r.To, len(r.But), " ")
			}
			return text
		},
	})
}

func shown(all []piece) []string {
	var texts []string
	for _, one := range all {
		texts = append(texts, one.show())
	}
	return texts
}

// withRoom is the same plan, each list with room behind its end that a test can look at.
func withRoom(p plan) plan {
	p = clonePlan(p)
	for i := range p.Rules {
		p.Rules[i].But = widened(p.Rules[i].But, 7001)
	}
	p.Rules = widened(p.Rules, rule{Every: 7002})
	p.Goes, p.Waits, p.Told = widened(p.Goes, 7003), widened(p.Waits, 7004), widened(p.Told, told{Tick: 7005, What: 7006})
	return p
}

func widened[T any](list []T, junk T) []T {
	wide := slices.Grow(slices.Clone(list), 80)
	for i := len(list); i < cap(wide); i++ {
		wide[:cap(wide)][i] = junk
	}
	return wide
}

// planCalls are all calls that answer a plan.
func planCalls(tick int, now int) map[string]func(p plan) (plan, []told) {
	return map[string]func(p plan) (plan, []told){
		"new": func(p plan) (plan, []told) {
			after, _ := impl.PlanNew(p.Rules, p.Policy, p.Window, p.Last)
			return after, nil
		},
		"tick": func(p plan) (plan, []told) { return impl.PlanTick(p, now) },
		"ends": func(p plan) (plan, []told) { return impl.PlanEnds(p, tick, now) },
		"same": func(p plan) (plan, []told) { return impl.PlanTick(p, p.Last) },
		"none": func(p plan) (plan, []told) { return impl.PlanEnds(p, -1, p.Last) },
		"over": func(p plan) (plan, []told) { return impl.PlanEnds(p, tick, p.Last) },
	}
}

func somePlans() []plan {
	source := rand.New(rand.NewSource(26))
	var plans []plan
	for i := range 60 {
		plans = append(plans, somePlan(source, allPolicies[i%5]))
	}
	for _, policy := range allPolicies {
		fresh := full(policy)
		fresh.Told = nil
		unfit := full(policy)
		unfit.Window = -1
		plans = append(plans, full(policy), fresh, unfit, plan{Rules: example(), Policy: policy, Window: 9, Last: -1})
	}
	return plans
}

func firstOf(p plan) int {
	if len(p.Goes) == 0 {
		return 0
	}
	return p.Goes[0]
}

func TestPlanAnswersAreNewMemory(t *testing.T) {
	for _, p := range somePlans() {
		for name, call := range planCalls(firstOf(p), p.Last+11) {
			count := len(pieces(call(p)))
			for place := range count {
				given := withRoom(p)
				mine := pieces(call(given))
				others := append(slices.Delete(slices.Clone(mine), place, place+1), pieces(given, nil)...)
				others = append(others, pieces(call(given))...)
				want := shown(others)
				mine[place].write()
				if got := shown(others); !slices.Equal(got, want) {
					t.Fatalf("%s of %v: list %d shares memory: %v, not %v", name, p, place, got, want)
				}
			}
		}
	}
}

func TestPlanArgumentsStayAsTheyWere(t *testing.T) {
	for _, p := range somePlans() {
		given := withRoom(p)
		want := shown(pieces(given, nil))
		for name, call := range planCalls(firstOf(p), p.Last+11) {
			call(given)
			impl.PlanOk(given)
			impl.PlanBoard(given)
			if got := shown(pieces(given, nil)); !slices.Equal(got, want) {
				t.Fatalf("%s of %v changed it: %v, not %v", name, p, got, want)
			}
		}
	}
}

// The lists of an argument may lie behind each other in one array.
func TestListsOfOneArray(t *testing.T) {
	for _, policy := range allPolicies {
		p := full(policy)
		p.Rules[0].But = []int{0, 2997}
		array := slices.Concat(p.Rules[0].But, p.Goes, p.Waits, []int{7, 7, 7})
		want := slices.Clone(array)
		goes := 2 + len(p.Goes)
		joined := clonePlan(p)
		joined.Rules[0].But, joined.Goes, joined.Waits = array[:2], array[2:goes], array[goes:goes+len(p.Waits)]
		for name, call := range planCalls(300, 1512) {
			apart, wantNews := call(p)
			after, news := call(joined)
			if !samePlan(after, apart) || !slices.Equal(news, wantNews) || !slices.Equal(array, want) {
				t.Errorf("policy %d, %s: %v told %v; the array is %v", policy, name, after, news, array)
			}
		}
	}
}

// The empty list and the nil list are the same.
func TestEmptyListsOfPlans(t *testing.T) {
	for _, policy := range allPolicies {
		p := plan{Rules: example(), Policy: policy, Window: 6, Last: 3}
		empty := clonePlan(p)
		empty.Goes, empty.Waits, empty.Told, empty.Rules[1].But = []int{}, []int{}, []told{}, []int{}
		if !impl.PlanOk(empty) || impl.PlanBoard(empty) != impl.PlanBoard(p) {
			t.Errorf("policy %d: empty lists differ", policy)
		}
		for name, call := range planCalls(7, 20) {
			after, news := call(p)
			same, again := call(empty)
			if !samePlan(after, same) || !slices.Equal(news, again) {
				t.Errorf("policy %d, %s: empty lists differ", policy, name)
			}
		}
	}
}

func TestPlansKeepNothing(t *testing.T) {
	source := rand.New(rand.NewSource(27))
	plans := somePlans()
	answer := func(p plan) string {
		calls := planCalls(firstOf(p), p.Last+11)
		text := fmt.Sprint(impl.PlanOk(p), impl.PlanBoard(p))
		for _, name := range []string{"new", "tick", "ends", "same", "none", "over"} {
			after, news := calls[name](p)
			text += fmt.Sprint(name, after, news)
		}
		return text
	}
	var first []string
	for _, p := range plans {
		first = append(first, answer(p))
	}
	for range 3 {
		for _, i := range source.Perm(len(plans)) {
			if again := answer(plans[i]); again != first[i] {
				t.Fatalf("asked again %v answers %s, not %s", plans[i], again, first[i])
			}
		}
	}
}
