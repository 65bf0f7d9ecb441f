package tests

import (
	"math/rand"
	"strings"
	"testing"

	"loop.example/dunsched/impl"
)

func TestBoardOfTheExample(t *testing.T) {
	p := begun(t, example(), impl.PlanWaitOne, 6, 0)
	if board := impl.PlanBoard(p); board != "last 0, next 2\ngoes\nwaits\n" {
		t.Errorf("%q", board)
	}
	for _, now := range []int{3, 18, 20} {
		p, _ = impl.PlanTick(p, now)
	}
	if board := impl.PlanBoard(p); board != "last 20, next 22\ngoes 2\nwaits 17\n2 began\n7 missed\n20 skipped\n" {
		t.Errorf("%q", board)
	}
	p, _ = impl.PlanEnds(p, 2, 21)
	p, _ = impl.PlanEnds(p, 17, 36)
	want := "last 36, next 37\ngoes 32\nwaits\n2 began\n7 missed\n20 skipped\n2 ended\n17 began\n22 missed\n27 missed\n17 ended\n32 began\n"
	if board := impl.PlanBoard(p); board != want {
		t.Errorf("%q", board)
	}
}

func TestBoards(t *testing.T) {
	for _, c := range []struct {
		p    plan
		want string
	}{
		{plan{Rules: example(), Policy: 1, Last: -1}, "last -1, next 2\ngoes\nwaits\n"},
		{plan{Rules: example(), Policy: 5, Last: 100}, "last 100, next -1\ngoes\nwaits\n"},
		{plan{Rules: example(), Policy: 4, Last: 100000, Goes: []int{2, 20, 100}}, "last 100000, next -1\ngoes 2 20 100\nwaits\n"},
		{plan{Rules: example(), Policy: 3, Last: 99, Goes: []int{2}, Waits: []int{7, 17, 80}}, "last 99, next 100\ngoes 2\nwaits 7 17 80\n"},
		{plan{Rules: each(1, 9), Policy: 2, Last: 5, Told: []told{{Tick: 0, What: 5}, {Tick: 1, What: 4}, {Tick: 2, What: 3}, {Tick: 3, What: 2}, {Tick: 4, What: 1}, {Tick: 4, What: 1}}}, "last 5, next 6\ngoes\nwaits\n0 ended\n1 stopped\n2 missed\n3 skipped\n4 began\n4 began\n"},
	} {
		if board := impl.PlanBoard(c.p); board != c.want {
			t.Errorf("%q instead of %q", board, c.want)
		}
	}
}

// P7.
func TestEachOkPlanHasABoard(t *testing.T) {
	for _, policy := range allPolicies {
		board := impl.PlanBoard(full(policy))
		if board != plainBoard(full(policy)) || strings.Count(board, "\n") != 3+impl.PlanMaxTold {
			t.Errorf("policy %d: %q", policy, board)
		}
	}
	source := rand.New(rand.NewSource(24))
	for i := range 500 {
		p := somePlan(source, allPolicies[i%5])
		if board := impl.PlanBoard(p); board == "" || board != plainBoard(p) {
			t.Fatalf("%v: %q, not %q", p, board, plainBoard(p))
		}
	}
}
