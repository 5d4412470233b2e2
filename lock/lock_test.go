package lock_test

import (
	"math"
	"math/rand"
	"slices"
	"testing"

	"dutyroster/api"
	"dutyroster/lock"
)

const (
	end   = api.MaxUntil
	most  = api.MaxWorks
	locks = api.MaxLocks
	acts  = api.MaxActs
	late  = 1000 // when a work may come
	long  = 100  // how many times one act may run
)

// edges stand on both sides of each bound that the chapter names, and at the ends of an int.
var edges = []int{
	math.MinInt, math.MinInt + 1, -api.MaxNum, -end, -2, -1, 0, 1, 2, 3, 4, 7, 8, 9, 30, 31, long - 1, long, long + 1,
	late - 1, late, late + 1, end - 1, end, end + 1, api.MaxNum, math.MaxInt - 1, math.MaxInt,
}

const (
	run  = api.ARun
	take = api.ATake
	drop = api.ADrop
)

func within(x, low, high int) bool { return low <= x && x <= high }

// work reads Kind and N of each act, one behind the other.
func work(came int, l ...int) api.Work {
	w := api.Work{Came: came}
	for i := 0; i+1 < len(l); i += 2 {
		w.Acts = append(w.Acts, api.Act{Kind: l[i], N: l[i+1]})
	}
	return w
}

func plain(came int) api.Work { return work(came, run, 1) }

// ceilings tells those of the first locks; nobody takes the others.
func ceilings(l ...int) []int {
	for len(l) < locks {
		l = append(l, -1)
	}
	return l
}

// depth of a lock: how often it is taken in acts and not dropped.
func depth(l []api.Act, n int) int {
	d := 0
	for _, a := range l {
		if a == (api.Act{Kind: take, N: n}) {
			d++
		}
		if a == (api.Act{Kind: drop, N: n}) {
			d--
		}
	}
	return d
}

// lastTaken goes back from the end of acts to the take that no drop belongs to; -1, if there is none.
func lastTaken(l []api.Act) int {
	drops := 0
	for i := len(l) - 1; i >= 0; i-- {
		switch {
		case l[i].Kind == drop:
			drops++
		case l[i].Kind == take && drops == 0:
			return l[i].N
		case l[i].Kind == take:
			drops--
		}
	}
	return -1
}

// slowForm asks of each act what the chapter asks, by itself.
func slowForm(w api.Work) bool {
	good := within(w.Came, 0, late)
	lastRun, lastTake := -1, -1
	for i, a := range w.Acts {
		switch a.Kind {
		case run:
			lastRun = i
			good = good && within(a.N, 1, long)
		case take:
			lastTake = i
			good = good && within(a.N, 0, locks-1) && depth(w.Acts[:i], a.N) == 0
		case drop:
			good = good && within(a.N, 0, locks-1) && lastTaken(w.Acts[:i]) == a.N
		default:
			return false
		}
	}
	return good && lastRun >= 0 && lastTake < lastRun && lastTaken(w.Acts) == -1
}

func slowCheck(l []api.Work) api.Errno {
	large, wrong := len(l) > most, false
	for _, w := range l {
		large = large || len(w.Acts) > acts
		wrong = wrong || !slowForm(w)
	}
	switch {
	case large:
		return api.ErrLarge
	case wrong:
		return api.ErrForm
	}
	return api.OK
}

func slowCeilings(l []api.Work) []int {
	var c []int
	for n := range locks {
		c = append(c, slices.IndexFunc(l, func(w api.Work) bool {
			return slices.Contains(w.Acts, api.Act{Kind: take, N: n})
		}))
	}
	return c
}

// unit is one time of a work: what it does ahead of it, and behind it.
type unit struct{ ahead, behind []api.Act }

func units(w api.Work) []unit {
	var l []unit
	var ahead []api.Act
	for i, a := range w.Acts {
		if a.Kind != run {
			ahead = append(ahead, a)
			continue
		}
		for range a.N {
			l = append(l, unit{ahead: ahead})
			ahead = nil
		}
		rest := w.Acts[i+1:]
		n := slices.IndexFunc(rest, func(a api.Act) bool { return a.Kind != drop })
		if n < 0 {
			n = len(rest)
		}
		l[len(l)-1].behind = rest[:n]
	}
	// The drops behind a run were told twice: they are none ahead of the next one.
	for i := 1; i < len(l); i++ {
		l[i].ahead = l[i].ahead[min(len(l[i].ahead), len(l[i-1].behind)):]
	}
	return l
}

// slowPlay has no list of who has what: it counts in what each work did already. Nobody ever asks it for what another
// one has.
func slowPlay(l []api.Work, until int) api.Locked {
	c := slowCeilings(l)
	p := api.Locked{Ends: make([]int, len(l))}
	left := make([][]unit, len(l))
	did := make([][]api.Act, len(l))
	for i, w := range l {
		left[i] = units(w)
	}
	urgency := func(i int) int {
		u := i
		for n := range locks {
			if depth(did[i], n) > 0 {
				u = min(u, c[n])
			}
		}
		return u
	}
	for t := range until {
		now := -1
		for i := len(l) - 1; i >= 0; i-- {
			if l[i].Came <= t && len(left[i]) > 0 && (now < 0 || urgency(i) < urgency(now)) {
				now = i
			}
		}
		p.Ran = append(p.Ran, now)
		if now < 0 {
			continue
		}
		did[now] = slices.Concat(did[now], left[now][0].ahead, left[now][0].behind)
		left[now] = left[now][1:]
		if len(left[now]) == 0 {
			p.Ends[now] = t + 1
		}
	}
	return p
}

// slowBound tells of each time of each work by itself if it has one of the locks.
func slowBound(l []api.Work, i int) int {
	c := slowCeilings(l)
	best := 0
	for _, w := range l[i+1:] {
		row := 0
		for at, a := range w.Acts {
			if a.Kind != run {
				continue
			}
			has := false
			for n := range locks {
				has = has || depth(w.Acts[:at], n) > 0 && c[n] <= i
			}
			for range a.N {
				if has {
					row++
				} else {
					row = 0
				}
				best = max(best, row)
			}
		}
	}
	return best
}

func wantCheck(t *testing.T, l []api.Work, want api.Errno) {
	t.Helper()
	if e := lock.Check(l); e != want {
		t.Errorf("Check(%v) = %v, want %v", l, e, want)
	}
}

// wantNone tells that no call takes l, whatever stands beside it.
func wantNone(t *testing.T, l []api.Work, want api.Errno) {
	t.Helper()
	wantCheck(t, l, want)
	if c, e := lock.Ceilings(l); c != nil || e != want {
		t.Errorf("Ceilings(%v) = %v, %v, want %v", l, c, e, want)
	}
	for _, x := range []int{-1, 0, 1, 5, end, end + 1} {
		wantNoPlay(t, l, x, want)
		wantBound(t, l, x, 0, want)
	}
}

func wantCeilings(t *testing.T, l []api.Work, want []int) {
	t.Helper()
	if c, e := lock.Ceilings(l); !slices.Equal(c, want) || e != api.OK {
		t.Errorf("Ceilings(%v) = %v, %v, want %v", l, c, e, want)
	}
}

func wantPlay(t *testing.T, l []api.Work, until int, want api.Locked) {
	t.Helper()
	p, e := lock.Play(l, until)
	if !slices.Equal(p.Ran, want.Ran) || !slices.Equal(p.Ends, want.Ends) || p.Clash != want.Clash || e != api.OK {
		t.Errorf("Play(%v, %d) = %v, %v, want %v", l, until, p, e, want)
	}
}

func wantNoPlay(t *testing.T, l []api.Work, until int, want api.Errno) {
	t.Helper()
	if p, e := lock.Play(l, until); p.Ran != nil || p.Ends != nil || p.Clash != 0 || e != want {
		t.Errorf("Play(%v, %d) = %v, %v, want %v", l, until, p, e, want)
	}
}

func wantBound(t *testing.T, l []api.Work, i, want int, err api.Errno) {
	t.Helper()
	if n, e := lock.Bound(l, i); n != want || e != err {
		t.Errorf("Bound(%v, %d) = %d, %v, want %d, %v", l, i, n, e, want, err)
	}
}

// wantAsSlow holds all calls against their slow twins, for works that are in form.
func wantAsSlow(t *testing.T, l []api.Work, until int) {
	t.Helper()
	wantCheck(t, l, api.OK)
	wantCeilings(t, l, slowCeilings(l))
	wantPlay(t, l, until, slowPlay(l, until))
	for i := range l {
		wantBound(t, l, i, slowBound(l, i), api.OK)
	}
}

// randomWork takes and drops at random, and runs at most far times an act.
func randomWork(source *rand.Rand, came, far, size int) api.Work {
	w := api.Work{Came: came}
	add := func(kind, n int) { w.Acts = append(w.Acts, api.Act{Kind: kind, N: n}) }
	anyRun := func() { add(run, 1+source.Intn(far)) }
	var taken []int
	for range size {
		n := source.Intn(locks)
		switch x := source.Intn(3); {
		case x == 0 && len(taken) < 4 && !slices.Contains(taken, n):
			taken = append(taken, n)
			add(take, n)
		case x == 1 && len(taken) > 0:
			add(drop, taken[len(taken)-1])
			taken = taken[:len(taken)-1]
		default:
			anyRun()
		}
	}
	anyRun()
	for ; len(taken) > 0; taken = taken[:len(taken)-1] {
		add(drop, taken[len(taken)-1])
	}
	return w
}

func randomWorks(source *rand.Rand, n, far, size int) []api.Work {
	var l []api.Work
	for range n {
		l = append(l, randomWork(source, source.Intn(40), far, 1+source.Intn(size)))
	}
	return l
}

// total tells by when all works are done, whatever happens, if each time is somebody's that can be.
func total(l []api.Work) int {
	n := 0
	for _, w := range l {
		n = max(n, w.Came)
	}
	for _, w := range l {
		n += len(units(w))
	}
	return n
}

// allActs calls do with all lists of n acts of those in letters.
func allActs(letters []api.Act, n int, do func([]api.Act)) {
	if n == 0 {
		do(nil)
		return
	}
	allActs(letters, n-1, func(l []api.Act) {
		for _, a := range letters {
			do(append(slices.Clone(l), a))
		}
	})
}

// small tells all lists of up to n acts with two locks, and runs of 1 and 2, that are in form.
func small(n int) [][]api.Act {
	letters := work(0, run, 1, run, 2, take, 0, drop, 0, take, 1, drop, 1).Acts
	var good [][]api.Act
	for size := range n + 1 {
		allActs(letters, size, func(l []api.Act) {
			if slowForm(api.Work{Acts: l}) {
				good = append(good, l)
			}
		})
	}
	return good
}

// P9.1

func TestCheckTakesWhatIsInForm(t *testing.T) {
	for _, w := range []api.Work{
		plain(0), plain(late), work(3, run, long), work(3, run, 1, run, 1),
		work(0, take, 0, run, 1, drop, 0), work(0, take, 7, run, 1, drop, 7),
		// The same lock again, once it is dropped.
		work(0, take, 3, run, 1, drop, 3, take, 3, run, 2, drop, 3),
		work(0, take, 3, drop, 3, take, 3, drop, 3, run, 1),
		// One in the other, all of them.
		work(0, take, 3, take, 1, run, 1, drop, 1, take, 2, run, 1, drop, 2, drop, 3, run, 4),
		work(0, take, 0, take, 1, take, 2, take, 3, take, 4, take, 5, take, 6, take, 7, run, 1,
			drop, 7, drop, 6, drop, 5, drop, 4, drop, 3, drop, 2, drop, 1, drop, 0),
		{Acts: slices.Repeat(plain(0).Acts, acts)},
	} {
		wantCheck(t, []api.Work{w}, api.OK)
		// Each of several may have the same locks.
		wantCheck(t, slices.Repeat([]api.Work{w}, most), api.OK)
	}
	wantCheck(t, nil, api.OK)
	wantCheck(t, []api.Work{}, api.OK)
}

func TestCheckRefusesWhatIsNotInForm(t *testing.T) {
	for _, w := range []api.Work{
		{}, {Came: 5, Acts: []api.Act{}}, plain(-1), plain(late + 1),
		// No run, and a run of none, or of too many.
		work(0, take, 0, drop, 0), work(0, run, 0), work(0, run, -1), work(0, run, long+1), work(0, run, 1, run, 0),
		// No kind.
		work(0, 0, 1), work(0, 4, 1), work(0, -1, 1), work(0, run, 1, 0, 0), work(0, 4, 0, run, 1), work(0, run, 1, 4, 1),
		// No lock.
		work(0, take, 8, run, 1, drop, 8), work(0, take, -1, run, 1, drop, -1), work(0, run, 1, drop, 8), work(0, run, 1, drop, -1),
		// Taken already.
		work(0, take, 1, take, 1, run, 1, drop, 1, drop, 1), work(0, take, 1, take, 1, run, 1, drop, 1),
		work(0, take, 1, take, 2, take, 1, run, 1, drop, 1, drop, 2, drop, 1),
		// Dropped, but not what was taken last.
		work(0, run, 1, drop, 0), work(0, drop, 0, run, 1), work(0, take, 1, run, 1, drop, 0, drop, 1),
		work(0, take, 1, take, 2, run, 1, drop, 1, drop, 2), work(0, take, 1, run, 1, drop, 1, drop, 1),
		work(0, take, 1, take, 2, run, 1, drop, 2, drop, 2, drop, 1), work(0, drop, 1, take, 1, run, 1),
		// Taken behind the last run.
		work(0, run, 1, take, 1, drop, 1), work(0, take, 1, run, 1, take, 2, drop, 2, drop, 1),
		work(0, take, 1, run, 1, drop, 1, take, 1, drop, 1),
		// Never dropped.
		work(0, take, 0, run, 1), work(0, run, 1, take, 0), work(0, take, 1, take, 2, run, 1, drop, 2),
		work(0, take, 1, run, 1, drop, 1, take, 1, run, 1),
	} {
		wantNone(t, []api.Work{w}, api.ErrForm)
		wantNone(t, []api.Work{plain(0), w}, api.ErrForm)
		wantNone(t, append(slices.Repeat([]api.Work{plain(0)}, most-1), w), api.ErrForm)
		wantNone(t, []api.Work{w, plain(0)}, api.ErrForm)
	}
}

func TestTooManyAreToldAheadOfWrongOnes(t *testing.T) {
	much := api.Work{Acts: slices.Repeat(plain(0).Acts, acts+1)}
	for _, l := range [][]api.Work{
		make([]api.Work, most+1), slices.Repeat([]api.Work{plain(0)}, most+1), slices.Repeat([]api.Work{plain(0)}, 1000),
		{much}, {plain(0), much}, {much, plain(0)}, {{}, much}, {plain(-1), much}, {much, plain(-1)},
		{{Came: -1, Acts: make([]api.Act, acts+1)}}, {{}, {Acts: make([]api.Act, 1000)}},
	} {
		wantNone(t, l, api.ErrLarge)
	}
	wantNone(t, make([]api.Work, most), api.ErrForm)
	wantNone(t, []api.Work{{Acts: make([]api.Act, acts)}}, api.ErrForm)
}

func TestCheckAtItsBounds(t *testing.T) {
	for _, x := range edges {
		for kind := range 6 {
			for _, w := range []api.Work{
				plain(x), work(0, kind-1, x), work(0, take, kind, run, x, drop, kind), work(0, take, x, run, 1, drop, x),
				work(0, x, 1), work(0, x, 1, run, 1, x, 1), work(x, kind-1, x), work(0, take, 1, run, 1, kind-1, x, drop, 1),
			} {
				wantCheck(t, []api.Work{w}, slowCheck([]api.Work{w}))
				wantCheck(t, []api.Work{plain(0), w}, slowCheck([]api.Work{w}))
			}
		}
	}
}

// All lists of up to six acts.
func TestCheckAllSmall(t *testing.T) {
	letters := work(0, run, 1, run, 0, take, 0, drop, 0, take, 1, drop, 1, take, locks, 0, 1).Acts
	found := map[api.Errno]int{}
	for size := range 7 {
		allActs(letters, size, func(l []api.Act) {
			w := []api.Work{{Acts: l}}
			want := slowCheck(w)
			found[want]++
			wantCheck(t, w, want)
		})
	}
	if found[api.OK] < 100 || found[api.ErrForm] < 1000 {
		t.Errorf("too few of one kind: %v", found)
	}
}

// One act of works in form is made another one, left out, or put in.
func TestCheckNearlyInForm(t *testing.T) {
	source := rand.New(rand.NewSource(1))
	found := map[api.Errno]int{}
	for range 20000 {
		l := randomWorks(source, 1+source.Intn(3), 3, 25)
		w := &l[source.Intn(len(l))]
		at := source.Intn(len(w.Acts))
		other := api.Act{Kind: source.Intn(5), N: source.Intn(10) - 1}
		switch source.Intn(4) {
		case 0:
			w.Acts[at] = other
		case 1:
			w.Acts = slices.Delete(w.Acts, at, at+1)
		case 2:
			w.Acts = slices.Insert(w.Acts, at, other)
		}
		found[slowCheck(l)]++
		wantCheck(t, l, slowCheck(l))
	}
	if found[api.OK] < 1000 || found[api.ErrForm] < 1000 {
		t.Errorf("too few of one kind: %v", found)
	}
}

// P9.2

func TestCeilings(t *testing.T) {
	has := func(n int) api.Work { return work(0, take, n, run, 1, drop, n) }
	wantCeilings(t, nil, ceilings())
	wantCeilings(t, []api.Work{plain(0), plain(0)}, ceilings())
	wantCeilings(t, []api.Work{has(0)}, ceilings(0))
	wantCeilings(t, []api.Work{plain(0), has(0), has(1), has(0)}, ceilings(1, 2))
	// When they come has no say in it, nor where among its acts a work takes it.
	wantCeilings(t, []api.Work{
		work(late, run, 9, take, 4, run, 1, take, 7, run, 1, drop, 7, drop, 4), work(0, take, 7, take, 2, run, 1, drop, 2, drop, 7),
		plain(0), work(5, take, 2, drop, 2, take, 0, run, 1, drop, 0, take, 4, run, 1, drop, 4),
	}, []int{3, -1, 1, -1, 0, -1, -1, 0})
	var l []api.Work
	for i := range most {
		l = append(l, has(most-1-i))
	}
	wantCeilings(t, l, []int{7, 6, 5, 4, 3, 2, 1, 0})
	// A run of 7 times is no lock.
	wantCeilings(t, []api.Work{work(0, run, 7), has(7)}, ceilings(-1, -1, -1, -1, -1, -1, -1, 1))
}

// P9.3

func TestPlay(t *testing.T) {
	// No lock at all: the least number that has come.
	free := []api.Work{work(3, run, 2), work(1, run, 2), work(0, run, 3)}
	// Both take 0; 2 has none.
	one := work(2, run, 1, take, 0, run, 1, drop, 0)
	for _, c := range []struct {
		l     []api.Work
		until int
		ran   []int
		ends  []int
	}{
		{nil, 0, nil, nil},
		{nil, 3, []int{-1, -1, -1}, nil},
		{[]api.Work{plain(0)}, 0, nil, []int{0}},
		{[]api.Work{plain(2)}, 2, []int{-1, -1}, []int{0}},
		{[]api.Work{plain(2)}, 4, []int{-1, -1, 0, -1}, []int{3}},
		{free, 8, []int{2, 1, 1, 0, 0, 2, 2, -1}, []int{5, 3, 7}},
		{free, 4, []int{2, 1, 1, 0}, []int{0, 3, 0}},
		{free, 6, []int{2, 1, 1, 0, 0, 2}, []int{5, 3, 0}},
		// Whoever has what 0 takes is as urgent as 0, and goes ahead of it, and of 1, until it drops it.
		{[]api.Work{one, plain(1), work(0, take, 0, run, 4, drop, 0, run, 1)}, 9, []int{2, 2, 2, 2, 0, 0, 1, 2, -1}, []int{6, 7, 8}},
		// A lock that only 1 takes doesn't make 2 as urgent as 0.
		{[]api.Work{plain(1), work(1, take, 0, run, 1, drop, 0), work(0, take, 0, run, 4, drop, 0)}, 7, []int{2, 0, 2, 2, 2, 1, -1}, []int{2, 6, 5}},
		// Of several locks it is the least ceiling that counts, whichever was taken first.
		{[]api.Work{work(1, take, 1, run, 1, drop, 1), work(1, take, 0, run, 1, drop, 0), work(0, take, 1, take, 0, run, 2, drop, 0, run, 1, drop, 1)}, 6, []int{2, 2, 2, 0, 1, -1}, []int{4, 5, 3}},
		{[]api.Work{work(1, take, 1, run, 1, drop, 1), work(1, take, 0, run, 1, drop, 0), work(0, take, 0, take, 1, run, 2, drop, 1, run, 1, drop, 0)}, 6, []int{2, 2, 0, 2, 1, -1}, []int{3, 5, 4}},
		// A take is only done with the time behind it: what stands ahead waits until the work is chosen.
		{[]api.Work{one, work(0, run, 2, take, 0, run, 2, drop, 0)}, 7, []int{1, 1, 0, 0, 1, 1, -1}, []int{4, 6}},
		{[]api.Work{work(1, take, 0, run, 1, drop, 0), work(0, run, 1, take, 0, run, 2, drop, 0)}, 5, []int{1, 0, 1, 1, -1}, []int{2, 4}},
		// What stands right behind the last time of a run is dropped at once, also several, but not what comes behind a take.
		{[]api.Work{plain(2), work(2, take, 0, take, 1, run, 1, drop, 1, drop, 0), work(0, take, 0, take, 1, run, 2, drop, 1, drop, 0, run, 1)}, 6, []int{2, 2, 0, 1, 2, -1}, []int{3, 4, 5}},
		{[]api.Work{work(1, take, 0, run, 1, drop, 0), work(0, take, 0, run, 1, take, 1, drop, 1, drop, 0, run, 2)}, 5, []int{1, 1, 0, 1, -1}, []int{3, 4}},
		{[]api.Work{work(1, take, 0, run, 1, drop, 0), work(0, take, 0, run, 1, drop, 0, take, 0, run, 2, drop, 0)}, 5, []int{1, 0, 1, 1, -1}, []int{2, 4}},
		// It ends with its last time, the drops that stand behind it included.
		{[]api.Work{work(0, take, 0, run, 2, drop, 0), work(0, run, 1)}, 2, []int{0, 0}, []int{2, 0}},
		{[]api.Work{work(0, take, 0, run, 2, drop, 0), work(0, run, 1)}, 1, []int{0}, []int{0, 0}},
		// Runs one behind the other are as one.
		{[]api.Work{plain(2), work(0, run, 1, run, 2, run, 1)}, 6, []int{1, 1, 0, 1, 1, -1}, []int{3, 5}},
	} {
		wantPlay(t, c.l, c.until, api.Locked{Ran: c.ran, Ends: c.ends})
		wantAsSlow(t, c.l, c.until)
	}
}

func TestPlayUntilAtItsBounds(t *testing.T) {
	l := []api.Work{plain(late), work(0, take, 0, run, long, drop, 0)}
	for _, until := range edges {
		if within(until, 0, end) {
			wantPlay(t, nil, until, slowPlay(nil, until))
			wantPlay(t, l, until, slowPlay(l, until))
			continue
		}
		wantNoPlay(t, nil, until, api.ErrArg)
		wantNoPlay(t, l, until, api.ErrArg)
		wantNoPlay(t, []api.Work{{}}, until, api.ErrForm)
		wantNoPlay(t, make([]api.Work, most+1), until, api.ErrLarge)
	}
}

// As many as there may be, of all.
func TestPlayOfMost(t *testing.T) {
	w := api.Work{Acts: slices.Repeat(work(0, run, long).Acts, acts)}
	l := slices.Repeat([]api.Work{w}, most)
	wantAsSlow(t, l, end)
	nested := api.Work{Acts: work(0, take, 0, take, 1, take, 2, run, long, drop, 2, drop, 1, drop, 0, run, long).Acts}
	l = slices.Repeat([]api.Work{nested}, most)
	for i := range l {
		l[i].Came = late - 3*i
	}
	wantAsSlow(t, l, end)
}

// All pairs of small works, and some of three.
func TestPlayAllSmall(t *testing.T) {
	source := rand.New(rand.NewSource(2))
	all := small(5)
	for _, x := range all {
		for _, y := range all {
			l := []api.Work{{Came: source.Intn(4), Acts: x}, {Came: source.Intn(4), Acts: y}}
			wantAsSlow(t, l, source.Intn(15))
			z := all[source.Intn(len(all))]
			wantAsSlow(t, append(l, api.Work{Came: source.Intn(4), Acts: z}), source.Intn(20))
		}
	}
	if len(all) < 50 {
		t.Errorf("too few: %d", len(all))
	}
}

func TestPlayAtRandom(t *testing.T) {
	source := rand.New(rand.NewSource(3))
	for range 3000 {
		l := randomWorks(source, source.Intn(most+1), 1+source.Intn(6), 1+source.Intn(25))
		wantAsSlow(t, l, source.Intn(2*total(l)+2))
	}
}

// Nobody asks for what another one has, no lock is two works' at one time, and all are done: nobody waits for ever.
func TestNobodyWaitsForEver(t *testing.T) {
	source := rand.New(rand.NewSource(4))
	for range 1000 {
		l := randomWorks(source, 1+source.Intn(most), 4, 25)
		p, e := lock.Play(l, total(l))
		if e != api.OK || p.Clash != 0 || slices.Contains(p.Ends, 0) {
			t.Errorf("Play(%v) = %v, %v", l, p, e)
		}
		had := make([]int, locks) // one more than who has it
		at := make([]int, len(l))
		for time, i := range p.Ran {
			if i < 0 {
				continue
			}
			u := units(l[i])[at[i]]
			at[i]++
			for _, a := range slices.Concat(u.ahead, u.behind) {
				if a.Kind == take && had[a.N] != 0 || a.Kind == drop && had[a.N] != i+1 {
					t.Errorf("at %d of %v: %d does %v of %v", time, l, i, a, had)
				}
				had[a.N] = 0
				if a.Kind == take {
					had[a.N] = i + 1
				}
			}
		}
	}
}

// P9.4

func TestBound(t *testing.T) {
	zero := work(0, take, 0, run, 1, drop, 0, take, 3, run, 1, drop, 3)
	for _, c := range []struct {
		low  api.Work
		want int
	}{
		{plain(0), 0},
		{work(0, run, long), 0},
		{work(0, take, 0, run, 5, drop, 0), 5},
		{work(0, run, 2, take, 0, run, 5, drop, 0, run, 9), 5},
		// A lock that 0 doesn't take makes nobody as urgent as 0.
		{work(0, take, 1, run, 5, drop, 1), 0},
		{work(0, take, 1, run, 5, take, 0, run, 2, drop, 0, run, 7, drop, 1), 2},
		{work(0, take, 0, run, 5, take, 1, run, 2, drop, 1, run, 7, drop, 0), 14},
		// The greatest of several, not all of them together.
		{work(0, take, 0, run, 5, drop, 0, run, 1, take, 0, run, 3, drop, 0), 5},
		{work(0, take, 0, run, 3, drop, 0, run, 1, take, 3, run, 5, drop, 3), 5},
		{work(0, take, 1, take, 0, run, 3, drop, 0, run, 1, take, 0, run, 2, drop, 0, drop, 1), 3},
		// In a row with one, then both, then the other one.
		{work(0, take, 0, run, 3, take, 3, run, 2, drop, 3, run, 1, drop, 0), 6},
		{work(0, take, 0, run, 3, run, 4, drop, 0), 7},
		// Between a drop and a take no time goes by at which it has none.
		{work(0, take, 0, run, 3, drop, 0, take, 3, run, 2, drop, 3), 5},
		{work(0, take, 0, run, 3, drop, 0, take, 0, run, 2, drop, 0), 5},
		{work(0, take, 0, run, 3, take, 1, drop, 1, drop, 0, take, 0, run, 2, drop, 0), 5},
		{work(0, take, 0, run, 3, drop, 0, take, 1, run, 1, drop, 1, take, 0, run, 2, drop, 0), 3},
		// What is taken and dropped ahead of a run is none of that run's.
		{work(0, take, 0, drop, 0, run, 5), 0},
		{work(0, take, 0, run, 3, take, 3, drop, 3, drop, 0, run, 9), 3},
		{work(0, take, 0, run, long, run, long, drop, 0), 2 * long},
	} {
		l := []api.Work{zero, c.low}
		wantBound(t, l, 0, c.want, api.OK)
		wantBound(t, l, 1, 0, api.OK)
		wantBound(t, []api.Work{zero, c.low, work(late, take, 3, run, 1, drop, 3)}, 0, max(1, c.want), api.OK)
		wantAsSlow(t, l, 40)
	}
	// A work that is as urgent, or more so, has no part in it.
	low := work(0, take, 0, run, 8, drop, 0)
	wantBound(t, []api.Work{low, plain(0)}, 0, 0, api.OK)
	wantBound(t, []api.Work{low, plain(0)}, 1, 0, api.OK)
	// A lock with a ceiling of less than i counts as well: whoever has it is more urgent than i.
	l := []api.Work{zero, plain(0), plain(0), low, plain(0)}
	for i, want := range []int{8, 8, 8, 0, 0} {
		wantBound(t, l, i, want, api.OK)
	}
	// One that only 1 and 3 take is nothing to 0.
	l = []api.Work{plain(0), low, plain(0), low}
	for i, want := range []int{0, 8, 8, 0} {
		wantBound(t, l, i, want, api.OK)
	}
	// One that 3 alone takes is nothing to anyone.
	wantBound(t, []api.Work{plain(0), plain(0), plain(0), low}, 2, 0, api.OK)
}

func TestBoundOfNoWork(t *testing.T) {
	l := []api.Work{plain(0), work(0, take, 0, run, 2, drop, 0), work(0, take, 0, run, 5, drop, 0)}
	for _, i := range edges {
		wantBound(t, nil, i, 0, api.ErrNone)
		wantBound(t, []api.Work{{}}, i, 0, api.ErrForm)
		wantBound(t, make([]api.Work, most+1), i, 0, api.ErrLarge)
		if !within(i, 0, len(l)-1) {
			wantBound(t, l, i, 0, api.ErrNone)
		}
	}
	for i, want := range []int{0, 5, 0} {
		wantBound(t, l, i, want, api.OK)
	}
}

// No work waits longer for less urgent ones, from when it comes until it is done, than its bound.
func TestNobodyWaitsLongerThanItsBound(t *testing.T) {
	source := rand.New(rand.NewSource(5))
	reached := 0
	for range 5000 {
		l := randomWorks(source, 1+source.Intn(5), 5, 12)
		p, _ := lock.Play(l, total(l))
		for i, w := range l {
			waits := 0
			for _, j := range p.Ran[w.Came:p.Ends[i]] {
				if j > i {
					waits++
				}
			}
			n, e := lock.Bound(l, i)
			if waits > n || e != api.OK {
				t.Errorf("%d of %v waits %d, Bound is %d, %v", i, l, waits, n, e)
			}
			// One time at least has gone by when it comes: else it would have been chosen itself.
			if waits == n-1 && waits > 0 {
				reached++
			}
		}
	}
	if reached < 50 {
		t.Errorf("the bound is reached only %d times", reached)
	}
}

// P1

func TestAllCallsAnswer(t *testing.T) {
	for _, a := range edges {
		for _, b := range edges {
			for _, c := range edges {
				for _, l := range [][]api.Work{
					{work(a, b, c)}, {work(0, take, a, run, b, drop, c)}, {work(a, take, b, run, 1, drop, b), plain(c)},
					{work(0, a, 1, b, 1, c, 1)}, {plain(0), work(a, run, b)},
				} {
					want := slowCheck(l)
					wantCheck(t, l, want)
					if _, e := lock.Ceilings(l); e != want {
						t.Errorf("Ceilings(%v): %v, want %v", l, e, want)
					}
					if want != api.OK {
						wantNoPlay(t, l, c, want)
						wantBound(t, l, c, 0, want)
					}
				}
			}
		}
	}
}

// P2

func TestMemory(t *testing.T) {
	source := rand.New(rand.NewSource(6))
	for range 50 {
		l := randomWorks(source, 3, 4, 12)
		c, _ := lock.Ceilings(l)
		p, _ := lock.Play(l, 60)
		hadC, hadRan, hadEnds := slices.Clone(c), slices.Clone(p.Ran), slices.Clone(p.Ends)
		// Works and acts stand ahead of more, that is none of theirs.
		x := slices.Concat(l, slices.Repeat([]api.Work{{Came: -7}}, most))
		for i := range l {
			x[i].Acts = slices.Concat(l[i].Acts, slices.Repeat([]api.Act{{Kind: -8, N: -9}}, acts))
		}
		was := slices.Clone(x)
		for i := range was {
			was[i].Acts = slices.Clone(x[i].Acts)
		}
		in := slices.Clone(x)[:len(l)]
		for i := range in {
			in[i].Acts = x[i].Acts[:len(l[i].Acts)]
		}
		// Whoever fills what is answered, its spare room included, changes nothing that is handed in or answered beside it.
		told, _ := lock.Ceilings(in)
		spoil(told)
		played, _ := lock.Play(in, 60)
		spoil(played.Ran)
		if !slices.Equal(played.Ends, hadEnds) {
			t.Error("two lists of one answer share memory")
		}
		spoil(played.Ends)
		lock.Check(in)
		lock.Bound(in, 0)
		for i := range x {
			if x[i].Came != was[i].Came || !slices.Equal(x[i].Acts, was[i].Acts) {
				t.Error("what is handed in is changed")
			}
		}
		lock.Play(randomWorks(source, most, 5, 20), 100)
		wantCeilings(t, in, hadC)
		wantPlay(t, in, 60, api.Locked{Ran: hadRan, Ends: hadEnds})
		// What was answered first stays as it was, whatever becomes of what was handed in.
		for i := range l {
			spoil(l[i].Acts)
		}
		if !slices.Equal(c, hadC) || !slices.Equal(p.Ran, hadRan) || !slices.Equal(p.Ends, hadEnds) {
			t.Error("an answer is changed")
		}
	}
}

func spoil[T any](l []T) {
	var zero T
	l = l[:cap(l)]
	for i := range l {
		l[i] = zero
	}
}
