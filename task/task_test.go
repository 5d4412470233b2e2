package task_test

import (
	"math"
	"math/rand"
	"slices"
	"testing"

	"dutyroster/api"
	"dutyroster/num"
	"dutyroster/span"
	"dutyroster/supply"
	"dutyroster/task"
)

const (
	top   = api.MaxNum
	frame = api.MaxFrame
	most  = api.MaxTasks
	round = api.MaxRound
	far   = 10000
)

// edges stand on both sides of each bound that the chapter names, and at the ends of an int.
var edges = []int{
	math.MinInt, math.MinInt + 1, -top, -far, -2, -1, 0, 1, 2, 3, 15, 16, 17, far - 1, far, far + 1,
	round - 1, round, round + 1, frame, frame + 1, top - 1, top, top + 1, math.MaxInt - 1, math.MaxInt,
}

func within(x, low, high int) bool { return low <= x && x <= high }

// tasks reads Long, Every and Due of each, one behind the other.
func tasks(l ...int) []api.Task {
	var t []api.Task
	for i := 0; i+2 < len(l); i += 3 {
		t = append(t, api.Task{Long: l[i], Every: l[i+1], Due: l[i+2]})
	}
	return t
}

// set reads the spans of a set from their bounds, one behind the other.
func set(size int, bounds ...int) api.Set {
	s := api.Set{Size: size}
	for i := 0; i+1 < len(bounds); i += 2 {
		s.Spans = append(s.Spans, api.Span{From: bounds[i], To: bounds[i+1]})
	}
	return s
}

func full(size int) api.Set { return set(size, 0, size) }

// ofBits is the set whose times are the ones of bits.
func ofBits(size, bits int) api.Set {
	var l []api.Span
	for t := range size {
		if bits>>t&1 == 1 {
			l = append(l, api.Span{From: t, To: t + 1})
		}
	}
	s, _ := span.Of(size, l)
	return s
}

// gaps is a set of 200 spans, with one time between each two, and one behind the last one.
func gaps(long int) api.Set {
	s := api.Set{Size: api.MaxSpans * (long + 1)}
	for i := range api.MaxSpans {
		s.Spans = append(s.Spans, api.Span{From: i * (long + 1), To: i*(long+1) + long})
	}
	return s
}

// slowDemand goes through all K, job by job, as the chapter tells it.
func slowDemand(l []api.Task, n int) int {
	sum := 0
	for _, x := range l {
		for k := 0; k*x.Every+x.Due <= n; k++ {
			sum += x.Long
		}
	}
	return sum
}

// leasts tells of each n up to until what is the least among n in a row, from each time of a round on.
func leasts(s api.Set, until int) []int {
	sums := make([]int, until+s.Size+1)
	for t := range until + s.Size {
		sums[t+1] = sums[t]
		if in, _ := span.Has(s, t); in {
			sums[t+1]++
		}
	}
	l := make([]int, until+1)
	for n := range l {
		l[n] = n
		for at := range s.Size {
			l[n] = min(l[n], sums[at+n]-sums[at])
		}
	}
	return l
}

// slowFits goes through each n below the length of the list of leasts, however many rounds these are.
func slowFits(l []api.Task, least []int) (bool, int) {
	for n, has := range least {
		if slowDemand(l, n) > has {
			return false, n
		}
	}
	return true, 0
}

func wantRound(t *testing.T, l []api.Task, want int, err api.Errno) {
	t.Helper()
	if n, e := task.Round(l); n != want || e != err {
		t.Errorf("Round(%v) = %d, %v, want %d, %v", l, n, e, want, err)
	}
}

func wantUse(t *testing.T, l []api.Task, used, of int, err api.Errno) {
	t.Helper()
	if a, b, e := task.Use(l); a != used || b != of || e != err {
		t.Errorf("Use(%v) = %d, %d, %v, want %d, %d, %v", l, a, b, e, used, of, err)
	}
}

func wantDemand(t *testing.T, l []api.Task, n, want int, err api.Errno) {
	t.Helper()
	if d, e := task.Demand(l, n); d != want || e != err {
		t.Errorf("Demand(%v, %d) = %d, %v, want %d, %v", l, n, d, e, want, err)
	}
}

func wantFits(t *testing.T, l []api.Task, s api.Set, ok bool, at int, err api.Errno) {
	t.Helper()
	if b, n, e := task.Fits(l, s); b != ok || n != at || e != err {
		t.Errorf("Fits(%v, %v) = %v, %d, %v, want %v, %d, %v", l, s, b, n, e, ok, at, err)
	}
}

func wantCheck(t *testing.T, l []api.Task, err api.Errno) {
	t.Helper()
	if e := task.Check(l); e != err {
		t.Errorf("Check(%v) = %v, want %v", l, e, err)
	}
}

// wantRefused is for lists that Check refuses: all others tell its error, whatever else is wrong.
func wantRefused(t *testing.T, l []api.Task, err api.Errno) {
	t.Helper()
	wantCheck(t, l, err)
	wantRound(t, l, 0, err)
	wantUse(t, l, 0, 0, err)
	for _, n := range []int{0, 5, -1, top + 1} {
		wantDemand(t, l, n, 0, err)
	}
	for _, s := range []api.Set{full(1), set(3), {}, set(9, 5, 10), set(frame)} {
		wantFits(t, l, s, false, 0, err)
	}
}

// P5.1

func TestCheck(t *testing.T) {
	for _, l := range [][]api.Task{
		nil, {}, tasks(1, 1, 1), tasks(far, far, far), tasks(1, far, 1), tasks(1, far, far), tasks(3, 7, 5),
		tasks(3, 7, 3), tasks(3, 7, 7), slices.Repeat(tasks(1, 4, 3), most), tasks(1, 4, 3, 1, 4, 3, 2, 2, 2),
	} {
		wantCheck(t, l, api.OK)
	}
	for _, wrong := range [][]api.Task{
		{{}}, tasks(0, 4, 3), tasks(-1, 4, 3), tasks(4, 4, 3), tasks(1, 4, 0), tasks(0, 4, 0), tasks(1, 4, 5),
		tasks(1, 0, 0), tasks(1, 0, 1), tasks(1, far+1, 1), tasks(-3, -1, -2), tasks(5, 4, 4), tasks(5, 4, 5),
		tasks(math.MaxInt, math.MaxInt, math.MaxInt), tasks(math.MinInt, math.MinInt, math.MinInt),
	} {
		wantRefused(t, wrong, api.ErrForm)
		wantRefused(t, slices.Concat(tasks(1, 2, 2, 1, 3, 3), wrong), api.ErrForm)
		wantRefused(t, slices.Concat(wrong, tasks(1, 2, 2)), api.ErrForm)
		wantRefused(t, slices.Concat(slices.Repeat(tasks(1, 4, 3), most-1), wrong), api.ErrForm)
		// How many there are is told ahead of what they are.
		wantRefused(t, slices.Concat(slices.Repeat(tasks(1, 4, 3), most), wrong), api.ErrLarge)
	}
	wantRefused(t, make([]api.Task, most), api.ErrForm)
	wantRefused(t, make([]api.Task, most+1), api.ErrLarge)
	wantRefused(t, slices.Repeat(tasks(1, 4, 3), most+1), api.ErrLarge)
	wantRefused(t, slices.Repeat(tasks(1, 4, 3), 5000), api.ErrLarge)
}

func TestCheckAtItsBounds(t *testing.T) {
	for _, long := range edges {
		for _, every := range edges {
			for _, due := range edges {
				err := api.ErrForm
				if within(every, 1, far) && within(due, 1, every) && within(long, 1, due) {
					err = api.OK
				}
				wantCheck(t, tasks(long, every, due), err)
			}
		}
	}
}

func TestRoundAndUse(t *testing.T) {
	for _, c := range []struct {
		l        []api.Task
		used, of int
	}{
		{nil, 0, 1},
		{[]api.Task{}, 0, 1},
		{tasks(1, 1, 1), 1, 1},
		{tasks(1, 4, 3), 1, 4},
		{tasks(1, 4, 4, 1, 6, 6), 5, 12},
		{tasks(1, 4, 3, 2, 6, 6), 7, 12},
		// Due has no part in it.
		{tasks(1, 4, 1, 1, 6, 1), 5, 12},
		// More may be asked for than there is.
		{tasks(4, 4, 4, 6, 6, 6), 24, 12},
		{tasks(2, 5, 5, 2, 5, 5, 2, 5, 5), 6, 5},
		{tasks(3, far, 3), 3, far},
		{tasks(1, 9973, 1, 2, 9967, 2), 9967 + 2*9973, 9973 * 9967},
		{tasks(9973, 9973, 9973, 9967, 9967, 9967, 9949, 9949, 9949), 3 * 9973 * 9967 * 9949, 9973 * 9967 * 9949},
		{slices.Repeat(tasks(far, far, far), most), most * far, far},
	} {
		wantRound(t, c.l, c.of, api.OK)
		wantUse(t, c.l, c.used, c.of, api.OK)
	}
}

func TestRoundsThatAreTooGreat(t *testing.T) {
	for _, l := range [][]api.Task{
		tasks(1, 9973, 1, 1, 9967, 1, 1, 9949, 1, 1, 2, 1),
		tasks(1, 9999, 1, 1, far, 1, 1, 9997, 1, 1, 9991, 1),
		tasks(1, 2, 1, 1, 9973, 1, 1, 9967, 1, 1, 9949, 1, 1, 9941, 1, 1, 9931, 1, 1, 9929, 1, 1, 9923, 1),
	} {
		wantRound(t, l, 0, api.ErrFull)
		wantUse(t, l, 0, 0, api.ErrFull)
		wantFits(t, l, full(1), false, 0, api.ErrFull)
		wantFits(t, l, set(1), false, 0, api.ErrFull)
	}
}

func TestRoundIsTheLcm(t *testing.T) {
	source := rand.New(rand.NewSource(1))
	for range 2000 {
		l := randomTasks(source, source.Intn(most+1), 1+source.Intn(far))
		var everies []int
		for _, x := range l {
			everies = append(everies, x.Every)
		}
		n, err := num.Lcm(everies)
		wantRound(t, l, n, err)
		used := 0
		for _, x := range l {
			used += x.Long * n / x.Every
		}
		wantUse(t, l, used, n, err)
	}
}

func randomTasks(source *rand.Rand, n, far int) []api.Task {
	var l []api.Task
	for range n {
		every := 1 + source.Intn(far)
		due := 1 + source.Intn(every)
		l = append(l, api.Task{Long: 1 + source.Intn(due), Every: every, Due: due})
	}
	return l
}

// P5.2

func TestDemand(t *testing.T) {
	for _, c := range []struct {
		l       []api.Task
		n, want int
	}{
		{nil, 0, 0},
		{nil, top, 0},
		{tasks(1, 1, 1), 0, 0},
		{tasks(1, 1, 1), 7, 7},
		{tasks(1, 4, 3), 2, 0},
		{tasks(1, 4, 3), 3, 1},
		{tasks(1, 4, 3), 6, 1},
		{tasks(1, 4, 3), 7, 2},
		{tasks(2, 6, 6), 5, 0},
		{tasks(2, 6, 6), 6, 2},
		{tasks(2, 6, 6), 11, 2},
		{tasks(2, 6, 6), 12, 4},
		{tasks(1, 4, 3, 2, 6, 6), 15, 8},
		{tasks(1, 4, 4, 1, 6, 6), 12, 5},
		{tasks(1, 4, 1), 0, 0},
		{tasks(1, 4, 1), 1, 1},
		{tasks(far, far, far), far - 1, 0},
		{tasks(far, far, far), far, far},
		{tasks(far, far, far), top, top / far * far},
		{tasks(1, far, 1), top, (top-1)/far + 1},
		{slices.Repeat(tasks(1, 1, 1), most), top, most * top},
		{slices.Repeat(tasks(7, 7, 7), most), top, most * (top / 7 * 7)},
	} {
		wantDemand(t, c.l, c.n, c.want, api.OK)
	}
}

func TestDemandAtItsBounds(t *testing.T) {
	for _, n := range edges {
		if within(n, 0, top) {
			wantDemand(t, nil, n, 0, api.OK)
			wantDemand(t, tasks(2, 2, 2), n, n/2*2, api.OK)
			wantDemand(t, tasks(1, 2, 1), n, (n+1)/2, api.OK)
		} else {
			wantDemand(t, nil, n, 0, api.ErrArg)
			wantDemand(t, tasks(2, 2, 2), n, 0, api.ErrArg)
			wantDemand(t, tasks(1, 2, 1), n, 0, api.ErrArg)
		}
	}
}

func TestDemandOfManyTasks(t *testing.T) {
	source := rand.New(rand.NewSource(2))
	for range 300 {
		l := randomTasks(source, source.Intn(most+1), 1+source.Intn(60))
		for n := range 200 {
			wantDemand(t, l, n, slowDemand(l, n), api.OK)
		}
		x := source.Intn(20000)
		wantDemand(t, l, x, slowDemand(l, x), api.OK)
	}
}

// With each whole round of all tasks the demand grows by what these use.
func TestDemandOfManyRounds(t *testing.T) {
	source := rand.New(rand.NewSource(3))
	for range 300 {
		l := randomTasks(source, source.Intn(6), 1+source.Intn(12))
		used, of, _ := task.Use(l)
		n := top - source.Intn(far)
		wantDemand(t, l, n, n/of*used+slowDemand(l, n%of), api.OK)
	}
}

// P5.3

func TestFits(t *testing.T) {
	two := tasks(1, 4, 3, 2, 6, 6)
	for _, c := range []struct {
		l  []api.Task
		s  api.Set
		at int
	}{
		{two, full(1), 0},
		{two, full(12), 0},
		{two, set(4, 0, 3), 0},
		{two, set(4, 1, 4), 0},
		{two, set(2, 0, 1), 7},
		{two, set(12, 0, 9), 3},
		{two, set(12, 0, 10), 0},
		{two, set(12, 2, 12), 0},
		{two, set(3), 3},
		// Where nothing is to be done a set without times is enough.
		{nil, set(3), 0},
		{nil, full(3), 0},
		{[]api.Task{}, set(round), 0},
		{tasks(1, 1, 1), full(7), 0},
		{tasks(1, 1, 1), set(7, 0, 6), 1},
		{tasks(1, 1, 1, 1, 1, 1), full(7), 1},
		{tasks(1, 1, 1), set(1), 1},
		// All that there is is used.
		{tasks(1, 2, 2, 1, 3, 3, 1, 6, 6), full(1), 0},
		{tasks(1, 2, 1, 1, 2, 2), full(1), 0},
		{tasks(1, 2, 1, 1, 2, 1), full(1), 1},
		// What is too much may be seen at the end of the round only.
		{tasks(1, 2, 2, 2, 3, 3), full(1), 6},
		{tasks(1, 3, 3), set(4, 0, 1), 3},
		{tasks(1, 4, 4), set(4, 0, 1), 0},
		{tasks(1, 4, 3), set(4, 0, 1), 3},
		{tasks(1, 5, 5), set(4, 0, 1), 0},
		{tasks(2, 5, 5), set(5, 0, 2), 0},
		{tasks(2, 5, 5), set(5, 0, 1, 3, 4), 0},
		{tasks(2, 5, 4), set(5, 0, 1, 3, 4), 4},
		{tasks(2, 6, 6), set(5, 0, 2), 0},
		// Where a round of the set ends and the next one begins is one gap.
		{tasks(1, 10, 6), set(10, 3, 7), 6},
		{tasks(1, 10, 7), set(10, 3, 7), 0},
	} {
		wantFits(t, c.l, c.s, c.at == 0, c.at, api.OK)
	}
}

func TestFitsAtTheGreatestRound(t *testing.T) {
	for _, c := range []struct {
		l   []api.Task
		s   api.Set
		ok  bool
		at  int
		err api.Errno
	}{
		{nil, set(round), true, 0, api.OK},
		{nil, set(round + 1), false, 0, api.ErrFull},
		{nil, set(frame), false, 0, api.ErrFull},
		{tasks(1, 1, 1), full(round), true, 0, api.OK},
		{tasks(1, 1, 1), full(round + 1), false, 0, api.ErrFull},
		{tasks(1, far, 1), full(3125), true, 0, api.OK},      // 2^4 times 5^5
		{tasks(1, 2381, 1), full(21), false, 0, api.ErrFull}, // 50001
		{tasks(1, 2381, 1, 1, 21, 1), full(1), false, 0, api.ErrFull},
		{tasks(1, far, 1, 1, 3125, 2), full(1), true, 0, api.OK},
		{tasks(1, far, 1, 1, 3125, 2), full(3), false, 0, api.ErrFull},
		{tasks(1, far, 1, 1, 3125, 2), full(far), true, 0, api.OK},
		{tasks(1, far, 1), full(7), false, 0, api.ErrFull},
		{tasks(1, 9973, 1, 1, 9967, 1, 1, 9949, 1), full(1), false, 0, api.ErrFull},
		{tasks(1, 9973, 1, 1, 9967, 1, 1, 9949, 1), full(999983), false, 0, api.ErrFull},
		{tasks(far, far, far), set(round, 0, round-1), false, far, api.OK},
		{tasks(far-1, far, far), set(round, 0, round-1), true, 0, api.OK},
		{tasks(far-1, far, far, 1, 3125, 3125), full(1), false, far, api.OK},
		// 5 times 9984 and 16 times 5 are all of the round: what is missing may be seen at its very end only.
		{tasks(far-16, far, far, 5, 3125, 3125), full(1), true, 0, api.OK},
		{tasks(far-16, far, far, 5, 3125, 3125), set(round, 0, round-1), false, round, api.OK},
		{tasks(far-16, far, far, 5, 3125, 3125), set(round, 0, round-2), false, far, api.OK},
		// 5 times 9997 and 16 are one more than there is.
		{tasks(far-4, far, far, 1, 3125, 3125), full(1), true, 0, api.OK},
		{tasks(far-3, far, far, 1, 3125, 3125), full(1), false, round, api.OK},
	} {
		wantFits(t, c.l, c.s, c.ok, c.at, c.err)
	}
}

func TestWrongSetsAreToldAheadOfTheRound(t *testing.T) {
	for err, l := range map[api.Errno][]api.Set{
		api.ErrArg:   {{}, set(0, 0, 1), set(frame+1, 0, 1), set(-1), set(math.MinInt, 0, 1), set(math.MaxInt)},
		api.ErrLarge: {{Size: frame, Spans: make([]api.Span, 201)}, {Size: 1, Spans: make([]api.Span, 500)}},
		api.ErrForm:  {set(9, 1, 2, 2, 3), set(9, 3, 3), set(9, 5, 10), set(frame, -1, 2), set(frame, 3, 4, 1, 2)},
	} {
		for _, s := range l {
			wantFits(t, nil, s, false, 0, err)
			wantFits(t, tasks(1, 4, 3), s, false, 0, err)
			wantFits(t, tasks(1, 2381, 1, 1, 21, 1), s, false, 0, err)
			wantFits(t, tasks(1, 9973, 1, 1, 9967, 1, 1, 9949, 1, 1, 2, 1), s, false, 0, err)
		}
	}
}

// All sets of up to 6 times, with all tasks of up to 6, and some pairs of these, against the slow twin.
func TestFitsAllSmall(t *testing.T) {
	var all []api.Task
	for every := 1; every <= 6; every++ {
		for due := 1; due <= every; due++ {
			for long := 1; long <= due; long++ {
				all = append(all, api.Task{Long: long, Every: every, Due: due})
			}
		}
	}
	source := rand.New(rand.NewSource(5))
	for size := 1; size <= 6; size++ {
		for bits := range 1 << size {
			s := ofBits(size, bits)
			least := leasts(s, 400)
			for _, x := range all {
				y, z := all[source.Intn(len(all))], all[source.Intn(len(all))]
				for _, l := range [][]api.Task{{x}, {x, y}, {x, y, z}} {
					ok, at := slowFits(l, least)
					wantFits(t, l, s, ok, at, api.OK)
				}
			}
		}
	}
}

func TestFitsAtRandom(t *testing.T) {
	source := rand.New(rand.NewSource(6))
	found := map[bool]int{}
	for range 400 {
		size := 1 + source.Intn(30)
		s := ofBits(size, source.Intn(1<<size)|source.Intn(1<<size)|source.Intn(1<<size))
		l := randomTasks(source, source.Intn(5), 1+source.Intn(24))
		for i := range l {
			l[i].Long = 1 + source.Intn(max(1, l[i].Due/4))
		}
		n := roundOf(l, size)
		if n > 4000 {
			continue
		}
		ok, at := slowFits(l, leasts(s, 2*n+3))
		wantFits(t, l, s, ok, at, api.OK)
		found[ok]++
	}
	if found[true] < 50 || found[false] < 50 {
		t.Errorf("too few of one kind: %v", found)
	}
}

func roundOf(l []api.Task, size int) int {
	n, _ := task.Round(l)
	both, _ := num.Lcm([]int{n, size})
	return both
}

// Whoever fits has all jobs in time, by what is due first, from whichever time on all of them come at once, and as soon
// as they may; whoever does not has one that is late, from some time on.
func TestWhoeverFitsIsInTime(t *testing.T) {
	source := rand.New(rand.NewSource(7))
	for range 300 {
		size := 1 + source.Intn(10)
		s := ofBits(size, source.Intn(1<<size)|source.Intn(1<<size))
		l := randomTasks(source, 1+source.Intn(3), 10)
		for i := range l {
			l[i].Long = 1 + source.Intn(max(1, l[i].Due/2))
		}
		n := roundOf(l, size)
		inTime := true
		for at := range size {
			inTime = inTime && plays(l, s, at, 2*n)
		}
		ok, _, e := task.Fits(l, s)
		if ok != inTime || e != api.OK {
			t.Errorf("Fits(%v, %v) = %v, %v, but in time: %v", l, s, ok, e, inTime)
		}
	}
}

// plays works at what is due first, and tells if nothing is ever late.
func plays(l []api.Task, s api.Set, at, long int) bool {
	left := make([]int, len(l))
	due := make([]int, len(l))
	for t := range long {
		first := -1
		for i, x := range l {
			if left[i] > 0 && due[i] <= t {
				return false
			}
			if t%x.Every == 0 {
				left[i], due[i] = x.Long, t+x.Due
			}
			if left[i] > 0 && (first < 0 || due[i] < due[first]) {
				first = i
			}
		}
		if in, _ := span.Has(s, at+t); in && first >= 0 {
			left[first]--
		}
	}
	return true
}

// As many n, and as many spans, as there may be: what is told is what Least and Demand tell of each n.
func TestFitsWhereItIsLongest(t *testing.T) {
	s := gaps(249)
	for _, l := range [][]api.Task{
		tasks(1, 10, 2, 1, 10, 3, 1, 10, 4, 1, 10, 5, 1, 10, 6, 1, 10, 7, 1, 10, 8, 1, 10, 9, 1, 10, 10, 24, 250, 250),
		tasks(1, 10, 2, 1, 10, 3, 1, 10, 4, 1, 10, 5, 1, 10, 6, 1, 10, 7, 1, 10, 8, 1, 10, 9, 1, 10, 10, 25, 250, 250),
		tasks(1, 2, 2, 1, 4, 4, 1, 8, 8, 1, 16, 16, 1, 80, 80, 1, 400, 400),
		tasks(249, 250, 250),
		tasks(1, 2, 2),
	} {
		at := 0
		for n := round; n >= 1; n-- {
			d, _ := task.Demand(l, n)
			if has, _ := supply.Least(s, n); d > has {
				at = n
			}
		}
		wantFits(t, l, s, at == 0, at, api.OK)
	}
}

// P1

func TestAllCallsAnswer(t *testing.T) {
	for _, a := range edges {
		for _, b := range edges {
			for _, c := range edges {
				for _, l := range [][]api.Task{tasks(a, b, c), tasks(1, 2, 2, a, b, c)} {
					task.Check(l)
					task.Round(l)
					task.Use(l)
					task.Demand(l, a)
					task.Fits(l, set(a, b, c))
				}
				task.Fits(tasks(1, 4, 3), set(a, b, c))
			}
		}
	}
}

// P2

func TestMemory(t *testing.T) {
	s := set(12, 0, 5, 6, 11)
	for _, l := range [][]api.Task{nil, tasks(1, 4, 3), tasks(2, 6, 6, 1, 4, 3, 1, 12, 9), tasks(1, 4, 3, 4, 3, 2)} {
		room := slices.Concat(l, slices.Repeat(tasks(-7, -8, -9), 2*most))
		times := slices.Concat(s.Spans, slices.Repeat([]api.Span{{From: -8, To: -9}}, 400))
		was, had := slices.Clone(room), slices.Clone(times)
		x := room[:len(l)]
		y := api.Set{Size: s.Size, Spans: times[:len(s.Spans)]}
		first := answers(x, y)
		if !slices.Equal(room, was) || !slices.Equal(times, had) {
			t.Errorf("what is handed in is changed: %v", l)
		}
		answers(tasks(1, 5, 5, 1, 7, 2), set(7, 0, 3, 4, 6))
		if !slices.Equal(answers(x, y), first) {
			t.Errorf("something is kept of %v", l)
		}
	}
}

func answers(l []api.Task, s api.Set) []int {
	a, e := task.Round(l)
	b, c, f := task.Use(l)
	d, g := task.Demand(l, 99)
	_, n, h := task.Fits(l, s)
	return []int{a, b, c, d, n, int(e), int(f), int(g), int(h)}
}
