package lock

import (
	"slices"
	"testing"

	"dutyroster/api"
)

// As long as whoever has a lock is as urgent as its ceiling says, nobody comes to ask for what another one has. So that
// somebody does, these plays are of ceilings that are too great: a lock makes nobody more urgent.
func TestClash(t *testing.T) {
	run := func(n int) api.Act { return api.Act{Kind: api.ARun, N: n} }
	take := func(n int) api.Act { return api.Act{Kind: api.ATake, N: n} }
	drop := func(n int) api.Act { return api.Act{Kind: api.ADrop, N: n} }
	var flat [api.MaxLocks]int
	for lock := range flat {
		flat[lock] = api.MaxWorks
	}
	low := api.Work{Acts: []api.Act{take(0), run(2), drop(0), take(1), run(1), drop(1)}}
	for _, c := range []struct {
		first  []api.Act
		ran    []int
		ends   []int
		clash  int
		owners [3]int
	}{
		// It asks for it at each time again, and whoever has it is never chosen.
		{[]api.Act{take(0), run(1), drop(0)}, []int{1, -1, -1, -1, -1}, []int{0, 0}, 4, [3]int{1, nobody, nobody}},
		// What stands ahead of it is done, once; what stands behind it isn't.
		{[]api.Act{take(1), take(0), take(2), run(1), drop(2), drop(0), drop(1)}, []int{1, -1, -1, -1, -1}, []int{0, 0}, 4, [3]int{1, 0, nobody}},
		{[]api.Act{take(1), drop(1), take(0), run(1), drop(0)}, []int{1, -1, -1, -1, -1}, []int{0, 0}, 4, [3]int{1, nobody, nobody}},
		{[]api.Act{run(1), take(2), take(0), run(1), drop(0), drop(2)}, []int{1, 0, -1, -1, -1}, []int{0, 0}, 3, [3]int{1, nobody, 0}},
		// A lock that nobody has is no clash.
		{[]api.Act{take(1), run(1), drop(1)}, []int{1, 0, 1, 1, -1}, []int{2, 4}, 0, [3]int{nobody, nobody, nobody}},
	} {
		s := open([]api.Work{{Came: 1, Acts: c.first}, low}, flat)
		p := s.play(5)
		if !slices.Equal(p.Ran, c.ran) || !slices.Equal(p.Ends, c.ends) || p.Clash != c.clash {
			t.Errorf("%v plays %v, want %v, %v, %d", c.first, p, c.ran, c.ends, c.clash)
		}
		if [3]int(s.owners[:3]) != c.owners {
			t.Errorf("%v: the locks are of %v, want %v", c.first, s.owners, c.owners)
		}
	}
}

// Once the other one has dropped it, what clashed goes on where it stood.
func TestClashIsOver(t *testing.T) {
	acts := []api.Act{{Kind: api.ATake, N: 0}, {Kind: api.ARun, N: 1}, {Kind: api.ADrop, N: 0}}
	s := open([]api.Work{{Acts: acts}}, unowned())
	s.owners[0] = 1
	if s.run(&s.workers[0]) || s.workers[0].next != 0 || s.owners[0] != 1 {
		t.Errorf("it took what another one has: %v", s)
	}
	s.owners[0] = nobody
	if !s.run(&s.workers[0]) || !s.workers[0].isOver() || s.owners[0] != nobody {
		t.Errorf("it did not go on: %v", s)
	}
}
