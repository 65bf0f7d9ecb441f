package tests

import (
	"fmt"
	"math"
	"math/rand"
	"slices"
	"strings"
	"testing"

	"loop.example/dunsched/impl"
)

type (
	plan = impl.Plan
	told = impl.PlanTold
)

// The table of policies, by their numbers.
var (
	allPolicies = []int{1, 2, 3, 4, 5}
	mostGoes    = []int{0, 1, 1, 1, 8, 1}
	mostWaits   = []int{0, 0, 1, 8, 0, 0}
)

// plainPlanOk says by the words of the document whether a plan is ok.
func plainPlanOk(p plan) bool {
	if !plainOk(p.Rules) || p.Policy < 1 || p.Policy > 5 || p.Window < 0 || p.Window > 1000 || p.Last < -1 || p.Last > 100000 {
		return false
	}
	if len(p.Goes) > mostGoes[p.Policy] || len(p.Waits) > mostWaits[p.Policy] || len(p.Told) > 60 {
		return false
	}
	if len(p.Goes) == 0 && len(p.Waits) > 0 {
		return false
	}
	for _, list := range [][]int{p.Goes, p.Waits} {
		for i, tick := range list {
			if !plainDue(p.Rules, tick) || tick > p.Last || i > 0 && list[i-1] >= tick {
				return false
			}
		}
	}
	for _, w := range p.Waits {
		for _, g := range p.Goes {
			if w <= g {
				return false
			}
		}
	}
	for _, x := range p.Told {
		if x.What < 1 || x.What > 5 || !plainDue(p.Rules, x.Tick) || x.Tick > p.Last {
			return false
		}
	}
	return true
}

const (
	goesOn  = "goes on"
	waiting = "waits"
)

// course is a plan by the words of the document, told another way than the program does:
// each time stands by itself, and all that was told is kept.
type course struct {
	rules                []rule
	policy, window, last int
	stands               map[int]string
	told                 []told
}

func courseOf(p plan) *course {
	c := &course{rules: cloneRules(p.Rules), policy: p.Policy, window: p.Window, last: p.Last, stands: map[int]string{}, told: slices.Clone(p.Told)}
	for _, tick := range p.Goes {
		c.stands[tick] = goesOn
	}
	for _, tick := range p.Waits {
		c.stands[tick] = waiting
	}
	return c
}

func (c *course) those(how string) []int {
	var ticks []int
	for tick, h := range c.stands {
		if h == how {
			ticks = append(ticks, tick)
		}
	}
	slices.Sort(ticks)
	return ticks
}

func (c *course) say(tick int, what int) {
	c.told = append(c.told, told{Tick: tick, What: what})
}

func (c *course) plan() plan {
	last := c.told
	for len(last) > 60 {
		last = last[1:]
	}
	return plan{Rules: c.rules, Policy: c.policy, Window: c.window, Last: c.last, Goes: c.those(goesOn), Waits: c.those(waiting), Told: last}
}

// look answers what was told.
func (c *course) look(now int) []told {
	before := len(c.told)
	if now <= c.last || now > 100000 {
		return nil
	}
	was := c.last
	c.last = now
	for tick := was + 1; tick <= now; tick++ {
		if !plainDue(c.rules, tick) {
			continue
		}
		goes, waits := c.those(goesOn), c.those(waiting)
		if now-tick > c.window {
			c.say(tick, 3)
		} else if c.policy == 5 && len(goes) == 1 {
			delete(c.stands, goes[0])
			c.say(goes[0], 4)
			c.stands[tick] = goesOn
			c.say(tick, 1)
		} else if len(goes) < mostGoes[c.policy] && len(waits) == 0 {
			c.stands[tick] = goesOn
			c.say(tick, 1)
		} else if len(waits) < mostWaits[c.policy] {
			c.stands[tick] = waiting
		} else {
			c.say(tick, 2)
		}
	}
	return c.told[before:]
}

func (c *course) ends(tick int, now int) []told {
	before := len(c.told)
	c.look(now)
	if c.stands[tick] == goesOn {
		delete(c.stands, tick)
		c.say(tick, 5)
	}
	for len(c.those(goesOn)) == 0 && len(c.those(waiting)) > 0 {
		first := c.those(waiting)[0]
		delete(c.stands, first)
		if c.last-first > c.window {
			c.say(first, 3)
		} else {
			c.stands[first] = goesOn
			c.say(first, 1)
		}
	}
	return c.told[before:]
}

// plainBoard is the board by the words of the document.
func plainBoard(p plan) string {
	if !plainPlanOk(p) {
		return ""
	}
	words := map[int]string{1: "began", 2: "skipped", 3: "missed", 4: "stopped", 5: "ended"}
	lines := []string{fmt.Sprintf("last %d, next %d", p.Last, plainNext(p.Rules, p.Last))}
	for name, list := range map[string][]int{"goes": p.Goes, "waits": p.Waits} {
		lines = append(lines, strings.TrimRight(name+" "+strings.Trim(fmt.Sprint(list), "[]"), " "))
	}
	slices.Sort(lines[1:])
	for _, x := range p.Told {
		lines = append(lines, fmt.Sprintf("%d %s", x.Tick, words[x.What]))
	}
	return strings.Join(lines, "\n") + "\n"
}

func samePlan(a plan, b plan) bool {
	return sameRules(a.Rules, b.Rules) && a.Policy == b.Policy && a.Window == b.Window && a.Last == b.Last &&
		slices.Equal(a.Goes, b.Goes) && slices.Equal(a.Waits, b.Waits) && slices.Equal(a.Told, b.Told)
}

func isNothing(p plan) bool {
	return samePlan(p, plan{})
}

func clonePlan(p plan) plan {
	p.Rules, p.Goes, p.Waits, p.Told = cloneRules(p.Rules), slices.Clone(p.Goes), slices.Clone(p.Waits), slices.Clone(p.Told)
	return p
}

func begun(t *testing.T, rules []rule, policy int, window int, from int) plan {
	t.Helper()
	p, ok := impl.PlanNew(rules, policy, window, from)
	if !ok {
		t.Fatalf("no plan of %v, policy %d, window %d, from %d", rules, policy, window, from)
	}
	return p
}

// each is a time at every tick of a span.
func each(every int, to int) []rule {
	return []rule{{Every: every, To: to}}
}

// somePlan makes a plan that is ok, of lists that are as full as may be or less.
func somePlan(source *rand.Rand, policy int) plan {
	p := plan{Rules: someRules(source, 20+source.Intn(60)), Policy: policy, Last: source.Intn(150) - 1}
	p.Window = []int{0, 1, 2 + source.Intn(20), 50, 1000}[source.Intn(5)]
	var due []int
	for tick := 0; tick <= p.Last; tick++ {
		if plainDue(p.Rules, tick) {
			due = append(due, tick)
		}
	}
	if len(due) == 0 {
		return p
	}
	goes := source.Intn(min(len(due), mostGoes[policy]) + 1)
	waits := 0
	if goes > 0 {
		waits = source.Intn(min(len(due)-goes, mostWaits[policy]) + 1)
	}
	var chosen []int
	for _, place := range source.Perm(len(due))[:goes+waits] {
		chosen = append(chosen, due[place])
	}
	slices.Sort(chosen)
	p.Goes, p.Waits = chosen[:goes:goes], slices.Clone(chosen[goes:])
	for range []int{0, 1, 59, 60, source.Intn(61)}[source.Intn(5)] {
		p.Told = append(p.Told, told{Tick: due[source.Intn(len(due))], What: 1 + source.Intn(5)})
	}
	return p
}

// full is a plan that meets the limits of its policy exactly.
func full(policy int) plan {
	p := plan{Rules: each(3, 3000), Policy: policy, Window: 1000, Last: 1500}
	for i := range mostGoes[policy] {
		p.Goes = append(p.Goes, 300+3*i)
	}
	for i := range mostWaits[policy] {
		p.Waits = append(p.Waits, 600+3*i)
	}
	for i := range 60 {
		p.Told = append(p.Told, told{Tick: 900 + 3*i, What: 1 + i%5})
	}
	return p
}

// badPlans are plans of a policy that are not ok, each for one reason.
func badPlans(policy int) map[string]plan {
	bad := map[string]plan{"nothing": {}}
	with := func(name string, change func(p *plan)) {
		p := full(policy)
		change(&p)
		bad[name] = p
	}
	for name, rules := range badRules() {
		with("rules: "+name, func(p *plan) { p.Rules, p.Goes, p.Waits, p.Told = rules, nil, nil, nil })
	}
	for _, number := range []int{math.MinInt, -1, 0, 6, 7, math.MaxInt} {
		with(fmt.Sprint("policy ", number), func(p *plan) { p.Policy, p.Goes, p.Waits = number, nil, nil })
	}
	for _, number := range []int{math.MinInt, -1, 1001, math.MaxInt} {
		with(fmt.Sprint("window ", number), func(p *plan) { p.Window = number })
	}
	for _, number := range []int{math.MinInt, -2, 100001, math.MaxInt} {
		with(fmt.Sprint("last ", number), func(p *plan) { p.Last, p.Goes, p.Waits, p.Told = number, nil, nil, nil })
	}
	with("goes: one too many", func(p *plan) { p.Goes = append(p.Goes, p.Goes[len(p.Goes)-1]+3) })
	with("goes: very many", func(p *plan) { p.Goes = make([]int, 1<<16) })
	with("waits: one too many", func(p *plan) { p.Waits = append(p.Waits, 900) })
	with("told: one too many", func(p *plan) { p.Told = append(p.Told, p.Told[0]) })
	with("told: very many", func(p *plan) { p.Told = make([]told, 1<<16) })
	badTicks(with)
	for _, what := range []int{math.MinInt, -1, 0, 6, math.MaxInt} {
		for _, place := range []int{0, 30, 59} {
			with(fmt.Sprintf("told: what %d at %d", what, place), func(p *plan) { p.Told[place].What = what })
		}
	}
	with("waits without goes", func(p *plan) { p.Goes, p.Waits = nil, []int{600} })
	if mostGoes[policy] > 1 {
		with("goes: descending", func(p *plan) { p.Goes[6], p.Goes[7] = p.Goes[7], p.Goes[6] })
		with("goes: the first descends", func(p *plan) { p.Goes[0] = p.Goes[1] + 3 })
		with("goes: twice", func(p *plan) { p.Goes[1] = p.Goes[0] })
	}
	if mostWaits[policy] > 0 {
		with("waits: at goes", func(p *plan) { p.Waits[0] = p.Goes[0] })
		with("waits: below goes", func(p *plan) { p.Waits[0] = p.Goes[0] - 3 })
		with("waits: all below goes", func(p *plan) { p.Goes[0] = 1200 })
		with("waits: goes empty", func(p *plan) { p.Goes = []int{} })
	}
	if mostWaits[policy] > 1 {
		with("waits: descending", func(p *plan) { p.Waits[6], p.Waits[7] = p.Waits[7], p.Waits[6] })
		with("waits: twice", func(p *plan) { p.Waits[7] = p.Waits[6] })
	}
	return bad
}

// badTicks puts ticks that are not due, or above Last, at the ends of each list.
func badTicks(with func(name string, change func(p *plan))) {
	for _, tick := range []int{math.MinInt, -3, -1, 1, 899, 1503, 3003, 100002, math.MaxInt} {
		with(fmt.Sprintf("goes: the first is %d", tick), func(p *plan) { p.Goes[0] = tick })
		with(fmt.Sprintf("goes: the last is %d", tick), func(p *plan) { p.Goes[len(p.Goes)-1], p.Waits = tick, nil })
		with(fmt.Sprintf("told: the first is %d", tick), func(p *plan) { p.Told[0].Tick = tick })
		with(fmt.Sprintf("told: the last is %d", tick), func(p *plan) { p.Told[59].Tick = tick })
		with(fmt.Sprintf("waits: the first is %d", tick), func(p *plan) {
			p.Waits = append([]int{tick}, p.Waits[min(1, len(p.Waits)):]...)
		})
		with(fmt.Sprintf("waits: the last is %d", tick), func(p *plan) {
			p.Waits = append(p.Waits[:max(0, len(p.Waits)-1)], tick)
		})
	}
}
