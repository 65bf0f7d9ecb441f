package tests

import (
	"math/rand"
	"testing"

	"loop.example/dunsched/impl"
)

// P8, with what is ok.
func TestNewBeginsWithNothing(t *testing.T) {
	for _, policy := range allPolicies {
		for _, window := range []int{0, 1, 6, impl.PlanMaxWindow - 1, impl.PlanMaxWindow} {
			for _, from := range []int{-1, 0, 1, 20, impl.CalMaxTick - 1, impl.CalMaxTick} {
				p, ok := impl.PlanNew(example(), policy, window, from)
				if !ok || !impl.PlanOk(p) || !plainPlanOk(p) {
					t.Fatalf("policy %d, window %d, from %d: %v, %v", policy, window, from, p, ok)
				}
				if !samePlan(p, plan{Rules: example(), Policy: policy, Window: window, Last: from}) {
					t.Errorf("policy %d, window %d, from %d: %v", policy, window, from, p)
				}
			}
		}
	}
}

// P8, with what is not ok.
func TestNewRefuses(t *testing.T) {
	refused := func(name string, rules []rule, policy int, window int, from int) {
		t.Helper()
		if p, ok := impl.PlanNew(rules, policy, window, from); ok || !isNothing(p) {
			t.Errorf("%s: policy %d, window %d, from %d: %v, %v", name, policy, window, from, p, ok)
		}
	}
	for _, policy := range allPolicies {
		for name, rules := range badRules() {
			refused(name, rules, policy, 6, 0)
		}
		for _, odd := range oddTicks() {
			if odd < 0 || odd > 1000 {
				refused("window", example(), policy, odd, 0)
			}
			if odd < -1 || odd > 100000 {
				refused("from", example(), policy, 6, odd)
			}
		}
		refused("from", example(), policy, 6, -2)
		refused("window", example(), policy, 1001, 0)
	}
	for _, odd := range append(oddTicks(), 6) {
		if odd < 1 || odd > 5 {
			refused("policy", example(), odd, 6, 0)
		}
	}
}

func TestPlanOkMeetsEachLimit(t *testing.T) {
	for _, policy := range allPolicies {
		p := full(policy)
		if !impl.PlanOk(p) {
			t.Errorf("policy %d: the full plan is not ok", policy)
		}
		p.Window = 0
		p.Last = p.Told[59].Tick
		if !impl.PlanOk(p) {
			t.Errorf("policy %d: told at Last is not ok", policy)
		}
		last := append([]int(nil), p.Goes...)
		last = append(last, p.Waits...)
		p.Last, p.Told = last[len(last)-1], nil
		if !impl.PlanOk(p) {
			t.Errorf("policy %d: going on or waiting at Last is not ok", policy)
		}
		p = plan{Rules: each(1, impl.CalMaxTick), Policy: policy, Last: impl.CalMaxTick, Goes: []int{impl.CalMaxTick}, Waits: []int{}, Told: []told{{Tick: 0, What: 5}, {Tick: impl.CalMaxTick, What: 1}}}
		if !impl.PlanOk(p) {
			t.Errorf("policy %d: the greatest tick is not ok", policy)
		}
		p = plan{Rules: example(), Policy: policy, Last: -1}
		if !impl.PlanOk(p) {
			t.Errorf("policy %d: the least Last is not ok", policy)
		}
	}
}

// What was told may come in any order and more than once: the document asks nothing of that.
func TestToldInAnyOrderIsOk(t *testing.T) {
	p := plan{Rules: example(), Policy: 1, Last: 40, Told: []told{{Tick: 40, What: 5}, {Tick: 2, What: 1}, {Tick: 2, What: 1}, {Tick: 2, What: 4}}}
	if !impl.PlanOk(p) {
		t.Error("not ok")
	}
}

func TestPlansThatAreNotOk(t *testing.T) {
	for _, policy := range allPolicies {
		for name, p := range badPlans(policy) {
			if impl.PlanOk(p) || plainPlanOk(p) {
				t.Errorf("policy %d, %s: ok", policy, name)
			}
			if board := impl.PlanBoard(p); board != "" {
				t.Errorf("policy %d, %s: %q", policy, name, board)
			}
			for _, now := range append(oddTicks(), 1500, 1501, 1600) {
				if after, told := impl.PlanTick(p, now); !isNothing(after) || len(told) != 0 {
					t.Errorf("policy %d, %s, looked at at %d: %v %v", policy, name, now, after, told)
				}
				for _, tick := range []int{300, now} {
					if after, told := impl.PlanEnds(p, tick, now); !isNothing(after) || len(told) != 0 {
						t.Errorf("policy %d, %s, %d ends at %d: %v %v", policy, name, tick, now, after, told)
					}
				}
			}
		}
	}
}

// Plans that are ok, and the same with one number changed.
func TestPlanOkAgainstTheDocument(t *testing.T) {
	source := rand.New(rand.NewSource(20))
	counts := [2]int{}
	for i := range 40000 {
		p := somePlan(source, allPolicies[i%5])
		if !plainPlanOk(p) || !impl.PlanOk(p) {
			t.Fatalf("not ok: %v", p)
		}
		changeOne(source, &p)
		ok := impl.PlanOk(p)
		if ok != plainPlanOk(p) {
			t.Fatalf("%v: ok is %v", p, ok)
		}
		if (impl.PlanBoard(p) != "") != ok {
			t.Fatalf("%v: a board, or none", p)
		}
		if ok {
			counts[1]++
		} else {
			counts[0]++
		}
	}
	if counts[0] < 1000 || counts[1] < 1000 {
		t.Errorf("only one kind of plan: %v", counts)
	}
}

func changeOne(source *rand.Rand, p *plan) {
	numbers := []*int{&p.Policy, &p.Window, &p.Last, &p.Rules[0].Every, &p.Rules[0].At, &p.Rules[0].From, &p.Rules[0].To}
	for range 3 {
		for i := range p.Goes {
			numbers = append(numbers, &p.Goes[i])
		}
		for i := range p.Waits {
			numbers = append(numbers, &p.Waits[i])
		}
	}
	for i := range p.Told {
		numbers = append(numbers, &p.Told[i].Tick, &p.Told[i].What)
	}
	number := numbers[source.Intn(len(numbers))]
	*number += source.Intn(13) - 6
}
