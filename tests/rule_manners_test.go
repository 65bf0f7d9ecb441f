package tests

import (
	"math"
	"math/rand"
	"slices"
	"testing"

	"loop.example/dunsched/impl"
)

// answers is all that the functions of calendars answer.
type answers struct {
	ok, due  bool
	next     int
	count    int
	text     string
	read     []rule
	readTrue bool
}

func ask(rules []rule, tick int, to int, text string) answers {
	a := answers{ok: impl.CalOk(rules), due: impl.CalDue(rules, tick), next: impl.CalNext(rules, tick), count: impl.CalCount(rules, tick, to), text: impl.CalWrite(rules)}
	a.read, a.readTrue = impl.CalRead(text)
	return a
}

func sameAnswers(a answers, b answers) bool {
	return a.ok == b.ok && a.due == b.due && a.next == b.next && a.count == b.count && a.text == b.text && a.readTrue == b.readTrue && sameRules(a.read, b.read)
}

// A panic fails the test by itself.
func TestEveryArgumentIsAnswered(t *testing.T) {
	source := rand.New(rand.NewSource(8))
	odd := oddTicks()
	pick := func() int { return odd[source.Intn(len(odd))] }
	for range 20000 {
		rules := make([]rule, source.Intn(7))
		for i := range rules {
			rules[i] = rule{Every: pick(), At: pick(), From: pick(), To: pick()}
			for range source.Intn(11) {
				rules[i].But = append(rules[i].But, pick())
			}
		}
		tick := pick()
		if ok := impl.CalOk(rules); ok != plainOk(rules) {
			t.Fatalf("%v: ok is %v", rules, ok)
		}
		if due := impl.CalDue(rules, tick); due != plainDue(rules, tick) {
			t.Fatalf("%v: due %d is %v", rules, tick, due)
		}
		if next := impl.CalNext(rules, tick); next != -1 && (next <= tick || !plainDue(rules, next)) {
			t.Fatalf("%v: behind %d comes %d", rules, tick, next)
		}
		if count := impl.CalCount(rules, tick, pick()); count < 0 || count > impl.CalMaxTick+1 {
			t.Fatalf("%v: %d", rules, count)
		}
		if text := impl.CalWrite(rules); (text != "") != plainOk(rules) {
			t.Fatalf("%v: written %q", rules, text)
		}
	}
}

func TestAnswersOfNothing(t *testing.T) {
	rules, ok := impl.CalRead("no rule")
	if ok || len(rules) != 0 {
		t.Error("a fault leaves something")
	}
	huge := []rule{{Every: 1, But: make([]int, 1<<20)}}
	if impl.CalOk(huge) || impl.CalOk(make([]rule, 1<<16)) || impl.CalNext(huge, math.MinInt) != -1 {
		t.Error("very many are ok")
	}
}

// guarded is rules with room behind each list's end that a test can look at.
func guarded() []rule {
	rules := make([]rule, 0, 6)
	for _, r := range example() {
		r.But = append(make([]int, 0, 12), r.But...)
		for i := len(r.But); i < cap(r.But); i++ {
			r.But[:cap(r.But)][i] = 7000 + i
		}
		rules = append(rules, r)
	}
	for i := len(rules); i < cap(rules); i++ {
		rules[:cap(rules)][i] = rule{Every: 8000 + i, But: []int{i}}
	}
	return rules
}

func TestArgumentsStayAsTheyWere(t *testing.T) {
	for _, unfit := range []bool{false, true} {
		rules, want := guarded(), guarded()
		if unfit {
			rules[1].Every, want[1].Every = 0, 0
		}
		ask(rules, 2, 40, exampleText)
		ask(rules, -5, 200, "")
		rules, want = rules[:cap(rules)], want[:cap(want)]
		if !sameRules(rules, want) {
			t.Errorf("changed: %v", rules)
		}
		for i := range 2 {
			if !slices.Equal(rules[i].But[:cap(rules[i].But)], want[i].But[:cap(want[i].But)]) {
				t.Errorf("changed behind the end: %v", rules[i].But[:cap(rules[i].But)])
			}
		}
	}
}

// scribble writes over all memory of rules, spare room included.
func scribble(rules []rule) {
	for i := range rules[:cap(rules)] {
		but := rules[:cap(rules)][i].But
		for j := range but[:cap(but)] {
			but[:cap(but)][j] = -9
		}
		rules[:cap(rules)][i] = rule{Every: -9}
	}
}

func TestAnswersAreNewMemory(t *testing.T) {
	text := "every 5 at 2 from 0 to 40 but 2 7 12\nevery 6 at 0 from 0 to 40 but 6\nevery 7 at 0 from 0 to 40\nevery 5 at 2 from 0 to 40 but 2 7 12\n"
	first, _ := impl.CalRead(text)
	want := cloneRules(first)
	second, _ := impl.CalRead(text)
	scribble(first)
	if !sameRules(second, want) {
		t.Errorf("two answers share memory: %v", second)
	}
	third, ok := impl.CalRead(text)
	if !ok || !sameRules(third, want) {
		t.Errorf("an answer is kept: %v", third)
	}
	for i := range third {
		got, _ := impl.CalRead(text)
		but := got[i].But[:cap(got[i].But)]
		for j := range but {
			but[j] = -9
		}
		for k := range got {
			if k != i && !slices.Equal(got[k].But, want[k].But) {
				t.Errorf("the lists %d and %d of one answer share memory", i, k)
			}
		}
	}
}

func TestNothingIsKept(t *testing.T) {
	source := rand.New(rand.NewSource(9))
	type question struct {
		rules    []rule
		tick, to int
		text     string
		first    answers
	}
	var questions []question
	for range 200 {
		q := question{rules: someRules(source, 60), tick: source.Intn(130) - 5, to: source.Intn(130) - 5}
		q.text = impl.CalWrite(someRules(source, 60))
		if source.Intn(3) == 0 {
			q.rules[0].At = q.rules[0].Every
			q.text = q.text[1:]
		}
		q.first = ask(q.rules, q.tick, q.to, q.text)
		questions = append(questions, q)
	}
	for range 3 {
		source.Shuffle(len(questions), func(i, j int) { questions[i], questions[j] = questions[j], questions[i] })
		for _, q := range questions {
			if again := ask(q.rules, q.tick, q.to, q.text); !sameAnswers(again, q.first) {
				t.Fatalf("asked again %v answers %v, not %v", q.rules, again, q.first)
			}
		}
	}
}
