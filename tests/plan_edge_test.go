package tests

import (
	"fmt"
	"math"
	"slices"
	"testing"

	"loop.example/dunsched/impl"
)

// expect holds a plan and what was told against texts.
func expect(t *testing.T, p plan, news []told, goes string, waits string, want string) {
	t.Helper()
	if fmt.Sprint(p.Goes) != goes || fmt.Sprint(p.Waits) != waits || fmt.Sprint(news) != want {
		t.Errorf("policy %d: goes %v waits %v told %v, not %s %s %s", p.Policy, p.Goes, p.Waits, news, goes, waits, want)
	}
	if !impl.PlanOk(p) {
		t.Errorf("not ok: %v", p)
	}
}

func TestWindowIsMetExactly(t *testing.T) {
	for _, policy := range allPolicies {
		for _, window := range []int{0, 1, 9, 999, impl.PlanMaxWindow} {
			start := begun(t, []rule{{Every: 1, From: 50, To: 50}}, policy, window, -1)
			p, news := impl.PlanTick(start, 50+window)
			expect(t, p, news, "[50]", "[]", "[{50 1}]")
			p, news = impl.PlanTick(start, 51+window)
			expect(t, p, news, "[]", "[]", "[{50 3}]")
		}
	}
}

func TestWindowOfWhatWaits(t *testing.T) {
	for _, policy := range []int{impl.PlanWaitOne, impl.PlanWaitAll} {
		for _, window := range []int{0, 1, 9, 999, impl.PlanMaxWindow} {
			start := plan{Rules: []rule{{Every: 10, To: 20}}, Policy: policy, Window: window, Last: 20, Goes: []int{10}, Waits: []int{20}}
			p, news := impl.PlanEnds(start, 10, 20+window)
			expect(t, p, news, "[20]", "[]", "[{10 5} {20 1}]")
			p, news = impl.PlanEnds(start, 10, 21+window)
			expect(t, p, news, "[]", "[]", "[{10 5} {20 3}]")
		}
	}
}

// What is too late stays among those that wait until its turn comes.
func TestLateWaitsUntilItsTurn(t *testing.T) {
	p := begun(t, each(10, 1000), impl.PlanWaitAll, 25, 0)
	p, news := impl.PlanTick(p, 10)
	expect(t, p, news, "[10]", "[]", "[{10 1}]")
	p, news = impl.PlanTick(p, 30)
	expect(t, p, news, "[10]", "[20 30]", "[]")
	p, news = impl.PlanTick(p, 65)
	expect(t, p, news, "[10]", "[20 30 40 50 60]", "[]")
	p, news = impl.PlanEnds(p, 20, 65)
	expect(t, p, news, "[10]", "[20 30 40 50 60]", "[]")
	p, news = impl.PlanEnds(p, 10, 65)
	expect(t, p, news, "[40]", "[50 60]", "[{10 5} {20 3} {30 3} {40 1}]")
	late, news := impl.PlanEnds(p, 40, 105)
	expect(t, late, news, "[80]", "[90 100]", "[{70 3} {40 5} {50 3} {60 3} {80 1}]")
	late, news = impl.PlanTick(p, 500)
	if len(news) != 41 || !slices.Equal(late.Waits, []int{50, 60, 480, 490, 500}) {
		t.Errorf("%v told %v", late, news)
	}
	late.Rules[0].To = 500
	late, news = impl.PlanEnds(late, 40, 900)
	expect(t, late, news, "[]", "[]", "[{40 5} {50 3} {60 3} {480 3} {490 3} {500 3}]")
}

// A time does not go ahead of one that waits, though that is too late.
func TestWaitingKeepsItsPlace(t *testing.T) {
	p := plan{Rules: each(10, 1000), Policy: impl.PlanWaitOne, Window: 5, Last: 30, Goes: []int{20}, Waits: []int{30}}
	p, news := impl.PlanTick(p, 60)
	expect(t, p, news, "[20]", "[30]", "[{40 3} {50 3} {60 2}]")
	p, news = impl.PlanEnds(p, 20, 60)
	expect(t, p, news, "[]", "[]", "[{20 5} {30 3}]")
	p, news = impl.PlanTick(p, 70)
	expect(t, p, news, "[70]", "[]", "[{70 1}]")
}

func TestGoesAreFull(t *testing.T) {
	p := begun(t, each(10, 1000), impl.PlanBoth, 1000, 0)
	p, news := impl.PlanTick(p, 80)
	expect(t, p, news, "[10 20 30 40 50 60 70 80]", "[]", "[{10 1} {20 1} {30 1} {40 1} {50 1} {60 1} {70 1} {80 1}]")
	p, news = impl.PlanTick(p, 90)
	expect(t, p, news, "[10 20 30 40 50 60 70 80]", "[]", "[{90 2}]")
	p, news = impl.PlanEnds(p, 40, 95)
	expect(t, p, news, "[10 20 30 50 60 70 80]", "[]", "[{40 5}]")
	p, news = impl.PlanTick(p, 110)
	expect(t, p, news, "[10 20 30 50 60 70 80 100]", "[]", "[{100 1} {110 2}]")
	p, news = impl.PlanEnds(p, 100, 110)
	expect(t, p, news, "[10 20 30 50 60 70 80]", "[]", "[{100 5}]")
	p, news = impl.PlanEnds(p, 10, 110)
	expect(t, p, news, "[20 30 50 60 70 80]", "[]", "[{10 5}]")
}

func TestWaitsAreFull(t *testing.T) {
	p := begun(t, each(10, 1000), impl.PlanWaitAll, 1000, 0)
	p, news := impl.PlanTick(p, 90)
	expect(t, p, news, "[10]", "[20 30 40 50 60 70 80 90]", "[{10 1}]")
	p, news = impl.PlanTick(p, 110)
	expect(t, p, news, "[10]", "[20 30 40 50 60 70 80 90]", "[{100 2} {110 2}]")
	p, news = impl.PlanEnds(p, 10, 120)
	expect(t, p, news, "[20]", "[30 40 50 60 70 80 90]", "[{120 2} {10 5} {20 1}]")
	p, news = impl.PlanTick(p, 140)
	expect(t, p, news, "[20]", "[30 40 50 60 70 80 90 130]", "[{140 2}]")
	p = begun(t, each(10, 1000), impl.PlanWaitOne, 1000, 0)
	p, news = impl.PlanTick(p, 30)
	expect(t, p, news, "[10]", "[20]", "[{10 1} {30 2}]")
	p, news = impl.PlanEnds(p, 10, 40)
	expect(t, p, news, "[20]", "[]", "[{40 2} {10 5} {20 1}]")
	p, news = impl.PlanTick(p, 50)
	expect(t, p, news, "[20]", "[50]", "[]")
}

func TestInsteadTakesThePlace(t *testing.T) {
	p := begun(t, each(10, 1000), impl.PlanInstead, 15, 0)
	p, news := impl.PlanTick(p, 20)
	expect(t, p, news, "[20]", "[]", "[{10 1} {10 4} {20 1}]")
	p, news = impl.PlanTick(p, 46)
	expect(t, p, news, "[40]", "[]", "[{30 3} {20 4} {40 1}]")
	missed, news := impl.PlanTick(p, 49)
	expect(t, missed, news, "[40]", "[]", "[]")
	p, news = impl.PlanEnds(p, 40, 50)
	expect(t, p, news, "[50]", "[]", "[{40 4} {50 1}]")
	p, news = impl.PlanEnds(p, 60, 60)
	expect(t, p, news, "[]", "[]", "[{50 4} {60 1} {60 5}]")
	p, news = impl.PlanTick(p, 70)
	expect(t, p, news, "[70]", "[]", "[{70 1}]")
	p.Window = 0
	p, news = impl.PlanTick(p, 99)
	expect(t, p, news, "[70]", "[]", "[{80 3} {90 3}]")
}

func TestEndsOfWhatDoesNotGoOn(t *testing.T) {
	for _, policy := range allPolicies {
		p := full(policy)
		p.Last, p.Told = 1500, p.Told[:3]
		ticks := append(oddTicks(), 297, 299, 301, 600, 621, 900, 1497, 1500, 1503, 3003)
		for _, tick := range ticks {
			for _, now := range []int{-1, 0, 1499, 1500, impl.CalMaxTick + 1} {
				same, news := impl.PlanEnds(p, tick, now)
				if !samePlan(same, p) || len(news) != 0 {
					t.Errorf("policy %d: %d ends at %d: %v told %v", policy, tick, now, same, news)
				}
			}
			looked, want := impl.PlanTick(p, 1502)
			after, news := impl.PlanEnds(p, tick, 1502)
			if !samePlan(after, looked) || !slices.Equal(news, want) {
				t.Errorf("policy %d: %d ends at 1502: %v told %v", policy, tick, after, news)
			}
		}
	}
}

func TestEndsOfEachThatGoesOn(t *testing.T) {
	p := full(impl.PlanBoth)
	for place, tick := range p.Goes {
		after, news := impl.PlanEnds(p, tick, p.Last)
		if len(news) != 1 || news[0] != (told{Tick: tick, What: impl.TimeEnded}) {
			t.Errorf("%d: told %v", tick, news)
		}
		if want := slices.Delete(slices.Clone(p.Goes), place, place+1); !slices.Equal(after.Goes, want) {
			t.Errorf("%d: %v go on", tick, after.Goes)
		}
		if again, none := impl.PlanEnds(after, tick, p.Last); len(none) != 0 || !samePlan(again, after) {
			t.Errorf("%d ends twice: %v", tick, none)
		}
	}
}

// An end is taken at a now at which nothing is looked at.
func TestEndsAtAnyNow(t *testing.T) {
	for _, policy := range allPolicies {
		p := full(policy)
		for _, now := range []int{math.MinInt, -1, 0, 299, p.Last - 1, p.Last, impl.CalMaxTick + 1, math.MaxInt} {
			after, news := impl.PlanEnds(p, 300, now)
			right := courseOf(p)
			if want := right.ends(300, p.Last); !slices.Equal(news, want) || !samePlan(after, right.plan()) || after.Last != p.Last {
				t.Errorf("policy %d at %d: %v told %v, not %v", policy, now, after, news, want)
			}
		}
	}
}

func TestNothingHappensAtAnotherNow(t *testing.T) {
	for _, policy := range allPolicies {
		for _, last := range []int{-1, 0, 1, 20, impl.CalMaxTick - 1, impl.CalMaxTick} {
			p := begun(t, each(1, impl.CalMaxTick), policy, 0, last)
			for _, now := range append(oddTicks(), last-1, last) {
				after, news := impl.PlanTick(p, now)
				if now > last && now <= impl.CalMaxTick {
					if after.Last != now || len(news) == 0 {
						t.Errorf("policy %d from %d at %d: Last %d, %d told", policy, last, now, after.Last, len(news))
					}
				} else if !samePlan(after, p) || len(news) != 0 {
					t.Errorf("policy %d from %d at %d: %v told %v", policy, last, now, after, news)
				}
			}
		}
	}
}

func TestLastIsNowWithoutAnyTime(t *testing.T) {
	for _, policy := range allPolicies {
		p := begun(t, example(), policy, 6, 100)
		p, news := impl.PlanTick(p, impl.CalMaxTick)
		expect(t, p, news, "[]", "[]", "[]")
		if p.Last != impl.CalMaxTick {
			t.Errorf("Last is %d", p.Last)
		}
	}
}

func TestFirstAndLastTick(t *testing.T) {
	for _, policy := range allPolicies {
		rules := []rule{{Every: 1, To: 0}, {Every: 1, From: impl.CalMaxTick, To: impl.CalMaxTick}}
		p, news := impl.PlanTick(begun(t, rules, policy, 0, -1), 0)
		expect(t, p, news, "[0]", "[]", "[{0 1}]")
		p, news = impl.PlanTick(begun(t, rules, policy, 0, 0), 1)
		expect(t, p, news, "[]", "[]", "[]")
		p, news = impl.PlanTick(p, impl.CalMaxTick)
		expect(t, p, news, "[100000]", "[]", "[{100000 1}]")
		p, news = impl.PlanEnds(p, impl.CalMaxTick, impl.CalMaxTick)
		expect(t, p, news, "[]", "[]", "[{100000 5}]")
	}
}

// Told keeps the last PlanMaxTold, and the answer is whole.
func TestToldIsCutAndTheAnswerIsNot(t *testing.T) {
	for _, policy := range allPolicies {
		for _, before := range []int{0, 1, 59, 60} {
			for _, times := range []int{1, 58, 59, 60, 61, 62, 300} {
				p := begun(t, each(1, 10000), policy, 0, 0)
				for i := range before {
					p.Told = append(p.Told, told{Tick: 0, What: 1 + i%5})
				}
				want := slices.Clone(p.Told)
				var whole []told
				for tick := 1; tick <= times; tick++ {
					whole = append(whole, told{Tick: tick, What: impl.TimeMissed})
				}
				whole[times-1].What = impl.TimeBegan
				want = append(want, whole...)
				want = want[max(0, len(want)-60):]
				after, news := impl.PlanTick(p, times)
				if !slices.Equal(news, whole) || !slices.Equal(after.Told, want) || !impl.PlanOk(after) {
					t.Fatalf("policy %d, %d before, %d times: %d are kept, %d answered", policy, before, times, len(after.Told), len(news))
				}
				whole = append(whole, told{Tick: times, What: impl.TimeEnded})
				want = append(want, whole[times])
				want = want[max(0, len(want)-60):]
				after, news = impl.PlanEnds(p, times, times)
				if !slices.Equal(news, whole) || !slices.Equal(after.Told, want) || !impl.PlanOk(after) {
					t.Fatalf("policy %d, %d before, %d times and an end: %d are kept, %d answered", policy, before, times, len(after.Told), len(news))
				}
			}
		}
	}
}

// As much as can be told in one call.
func TestTheWholeCalendarAtOnce(t *testing.T) {
	for _, policy := range allPolicies {
		p := begun(t, []rule{{Every: 1, To: impl.CalMaxTick}, {Every: 2, To: impl.CalMaxTick}}, policy, impl.PlanMaxWindow, -1)
		p, news := impl.PlanTick(p, impl.CalMaxTick)
		counts := [6]int{}
		for _, x := range news {
			counts[x.What]++
		}
		want := [6][6]int{1: {0, 1, 1000, 99000}, 2: {0, 1, 999, 99000}, 3: {0, 1, 992, 99000}, 4: {0, 8, 993, 99000}, 5: {0, 1001, 0, 99000, 1000}}[policy]
		if counts != want || len(p.Told) != impl.PlanMaxTold || !slices.Equal(p.Told, news[len(news)-impl.PlanMaxTold:]) || !impl.PlanOk(p) {
			t.Errorf("policy %d: %v", policy, counts)
		}
		if err := (ledger{from: -1, told: news}).check(p); err != nil {
			t.Errorf("policy %d: %v", policy, err)
		}
	}
}
