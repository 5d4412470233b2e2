package play_test

import (
	"math"
	"math/rand"
	"slices"
	"testing"

	"dutyroster/api"
	"dutyroster/num"
	"dutyroster/play"
	"dutyroster/span"
	"dutyroster/task"
)

const (
	edf   = api.PEdf
	fixed = api.PFixed
	end   = api.MaxUntil
	most  = api.MaxTasks
	far   = 10000 // when a task may come first, and how many may be told as done
)

var policies = []int{edf, fixed}

// edges stand on both sides of each bound that the chapter names, and at the ends of an int.
var edges = []int{
	math.MinInt, math.MinInt + 1, -api.MaxNum, -end, -2, -1, 0, 1, 2, 3, 4, 16, 17, api.MaxJobs, api.MaxJobs + 1,
	far - 1, far, far + 1, end - 1, end, end + 1, api.MaxNum, math.MaxInt - 1, math.MaxInt,
}

func within(x, low, high int) bool { return low <= x && x <= high }

// tasks reads Long, Every and Due of each, one behind the other.
func tasks(l ...int) []api.Task {
	var t []api.Task
	for i := 0; i+2 < len(l); i += 3 {
		t = append(t, api.Task{Long: l[i], Every: l[i+1], Due: l[i+2]})
	}
	return t
}

// set reads the spans of a set from their bounds, one behind the other.
func set(size int, bounds ...int) api.Set {
	s := api.Set{Size: size}
	for i := 0; i+1 < len(bounds); i += 2 {
		s.Spans = append(s.Spans, api.Span{From: bounds[i], To: bounds[i+1]})
	}
	return s
}

func full() api.Set { return set(1, 0, 1) }

// ofBits is the set whose times are the ones of bits.
func ofBits(size, bits int) api.Set {
	var l []api.Span
	for t := range size {
		if bits>>t&1 == 1 {
			l = append(l, api.Span{From: t, To: t + 1})
		}
	}
	s, _ := span.Of(size, l)
	return s
}

// dones reads Task, Job, Came and At of each, one behind the other.
func dones(l ...int) []api.Done {
	var d []api.Done
	for i := 0; i+3 < len(l); i += 4 {
		d = append(d, api.Done{Task: l[i], Job: l[i+1], Came: l[i+2], At: l[i+3]})
	}
	return d
}

// lates reads Task and Job of each, one behind the other.
func lates(l ...int) []api.Late {
	var d []api.Late
	for i := 0; i+1 < len(l); i += 2 {
		d = append(d, api.Late{Task: l[i], Job: l[i+1]})
	}
	return d
}

// slowJob is a job of the slow twin, which has all of them at hand from the beginning.
type slowJob struct{ task, number, came, due, left int }

func slowJobs(l []api.Task, first []int, until int) []slowJob {
	var jobs []slowJob
	for i, x := range l {
		for k := 0; first[i]+k*x.Every < until; k++ {
			came := first[i] + k*x.Every
			jobs = append(jobs, slowJob{i, k, came, came + x.Due, x.Long})
		}
	}
	return jobs
}

// slowPlay looks at each time through all jobs, as the chapter tells it. The jobs stand task by task, job by job, so
// that of several the first one that is found goes ahead by both policies.
func slowPlay(l []api.Task, s api.Set, first []int, policy, until int) ([]api.Done, int) {
	jobs := slowJobs(l, first, until)
	var done []api.Done
	idle := 0
	for t := range until {
		if in, _ := span.Has(s, t); !in {
			continue
		}
		now := -1
		for i, j := range jobs {
			if j.came > t || j.left == 0 {
				continue
			}
			if now < 0 || policy == edf && j.due < jobs[now].due {
				now = i
			}
		}
		if now < 0 {
			idle++
			continue
		}
		j := &jobs[now]
		j.left--
		if j.left == 0 {
			done = append(done, api.Done{Task: j.task, Job: j.number, Came: j.came, At: t + 1})
		}
	}
	return done, idle
}

func slowLates(l []api.Task, first []int, done []api.Done, until int) []api.Late {
	var late []api.Late
	for _, j := range slowJobs(l, first, until) {
		inTime := slices.ContainsFunc(done, func(d api.Done) bool {
			return d.Task == j.task && d.Job == j.number && d.At <= j.due
		})
		if j.due <= until && !inTime {
			late = append(late, api.Late{Task: j.task, Job: j.number})
		}
	}
	return late
}

func wantPlay(t *testing.T, l []api.Task, s api.Set, first []int, policy, until int, want []api.Done, idle int) {
	t.Helper()
	d, n, e := play.Play(l, s, first, policy, until)
	if !slices.Equal(d, want) || n != idle || e != api.OK {
		t.Errorf("Play(%v, %v, %v, %d, %d) = %v, %d, %v, want %v, %d", l, s, first, policy, until, d, n, e, want, idle)
	}
}

func wantLates(t *testing.T, l []api.Task, first []int, done []api.Done, until int, want []api.Late) {
	t.Helper()
	if d, e := play.Lates(l, first, done, until); !slices.Equal(d, want) || e != api.OK {
		t.Errorf("Lates(%v, %v, %v, %d) = %v, %v, want %v", l, first, done, until, d, e, want)
	}
}

func wantNoPlay(t *testing.T, l []api.Task, s api.Set, first []int, policy, until int, err api.Errno) {
	t.Helper()
	if d, n, e := play.Play(l, s, first, policy, until); d != nil || n != 0 || e != err {
		t.Errorf("Play(%v, %v, %v, %d, %d) = %v, %d, %v, want %v", l, s, first, policy, until, d, n, e, err)
	}
}

func wantNoLates(t *testing.T, l []api.Task, first []int, done []api.Done, until int, err api.Errno) {
	t.Helper()
	if d, e := play.Lates(l, first, done, until); d != nil || e != err {
		t.Errorf("Lates(%v, %v, %d of done, %d) = %v, %v, want %v", l, first, len(done), until, d, e, err)
	}
}

func randomTasks(source *rand.Rand, n, far int) []api.Task {
	var l []api.Task
	for range n {
		every := 1 + source.Intn(far)
		due := 1 + source.Intn(every)
		l = append(l, api.Task{Long: 1 + source.Intn(due), Every: every, Due: due})
	}
	return l
}

func randomFirst(source *rand.Rand, n, far int) []int {
	l := make([]int, n)
	for i := range l {
		l[i] = source.Intn(far)
	}
	return l
}

// P6.1

func TestWrongTasksAreToldAheadOfAll(t *testing.T) {
	for err, l := range map[api.Errno][][]api.Task{
		api.ErrForm: {
			{{}}, tasks(0, 4, 3), tasks(4, 4, 3), tasks(1, 4, 0), tasks(1, 4, 5), tasks(1, far+1, 1), tasks(1, 2, 2, -1, 4, 3),
			tasks(math.MaxInt, math.MaxInt, math.MaxInt), make([]api.Task, most),
		},
		api.ErrLarge: {make([]api.Task, most+1), slices.Repeat(tasks(1, 4, 3), most+1)},
	} {
		for _, x := range l {
			for _, first := range [][]int{nil, make([]int, len(x)), {-1}} {
				for _, until := range []int{-1, 0, 5, end + 1} {
					for _, policy := range []int{0, edf, fixed, 3} {
						wantNoPlay(t, x, full(), first, policy, until, err)
						wantNoPlay(t, x, api.Set{}, first, policy, until, err)
						wantNoPlay(t, x, set(9, 5, 10), first, policy, until, err)
					}
					wantNoLates(t, x, first, nil, until, err)
					wantNoLates(t, x, first, make([]api.Done, far+1), until, err)
				}
			}
		}
	}
}

func TestWrongSetsAreToldNext(t *testing.T) {
	for err, l := range map[api.Errno][]api.Set{
		api.ErrArg:   {{}, set(0, 0, 1), set(api.MaxFrame+1, 0, 1), set(-1), set(math.MinInt, 0, 1), set(math.MaxInt)},
		api.ErrLarge: {{Size: api.MaxFrame, Spans: make([]api.Span, api.MaxSpans+1)}},
		api.ErrForm:  {set(9, 1, 2, 2, 3), set(9, 3, 3), set(9, 5, 10), set(9, -1, 2), set(9, 3, 4, 1, 2)},
	} {
		for _, s := range l {
			wantNoPlay(t, nil, s, nil, edf, 0, err)
			wantNoPlay(t, tasks(1, 4, 3), s, []int{0}, fixed, 9, err)
			wantNoPlay(t, tasks(1, 4, 3), s, nil, 0, -1, err)
			wantNoPlay(t, tasks(1, 4, 3), s, []int{far + 1}, edf, end+1, err)
			wantNoPlay(t, tasks(1, 1, 1), s, []int{0}, edf, end, err)
		}
	}
}

func TestFirstIsForEachTask(t *testing.T) {
	two := tasks(1, 4, 3, 2, 6, 6)
	many := tasks(1, 1, 1, 1, 1, 1)
	for _, first := range [][]int{
		nil, {}, {0}, {0, 0, 0}, {0, -1}, {-1, 0}, {far + 1, 0}, {0, far + 1}, {0, 0, -1},
		{math.MinInt, 0}, {0, math.MaxInt}, make([]int, 5000),
	} {
		for _, until := range []int{math.MinInt, -1, 0, 7, end, end + 1} {
			for _, policy := range []int{-1, 0, edf, fixed, 3} {
				wantNoPlay(t, two, full(), first, policy, until, api.ErrForm)
				wantNoPlay(t, many, set(3), first, policy, until, api.ErrForm)
			}
			wantNoLates(t, two, first, nil, until, api.ErrForm)
			wantNoLates(t, many, first, make([]api.Done, far+1), until, api.ErrForm)
		}
	}
	wantNoPlay(t, nil, full(), []int{0}, edf, 0, api.ErrForm)
	wantNoLates(t, nil, []int{0}, nil, 0, api.ErrForm)
}

func TestFirstAtItsBounds(t *testing.T) {
	l := tasks(1, 50, 1)
	for _, x := range edges {
		if !within(x, 0, far) {
			wantNoPlay(t, l, full(), []int{x}, edf, end, api.ErrForm)
			wantNoLates(t, l, []int{x}, nil, end, api.ErrForm)
			continue
		}
		wantPlay(t, l, full(), []int{x}, edf, x, nil, x)
		wantPlay(t, l, full(), []int{x}, edf, x+1, dones(0, 0, x, x+1), x)
		wantLates(t, l, []int{x}, nil, x, nil)
		wantLates(t, l, []int{x}, nil, x+1, lates(0, 0))
	}
}

func TestPolicyAtItsBounds(t *testing.T) {
	l := tasks(1, 1, 1)
	for _, policy := range edges {
		if policy == edf || policy == fixed {
			wantPlay(t, l, full(), []int{0}, policy, 1, dones(0, 0, 0, 1), 0)
			continue
		}
		wantNoPlay(t, nil, full(), nil, policy, 0, api.ErrArg)
		wantNoPlay(t, l, full(), []int{0}, policy, 1, api.ErrArg)
		wantNoPlay(t, l, full(), []int{0}, policy, end+1, api.ErrArg)
		// More jobs than there may be are told behind it.
		wantNoPlay(t, l, full(), []int{0}, policy, end, api.ErrArg)
	}
}

func TestUntilAtItsBounds(t *testing.T) {
	l := tasks(1, far, 1)
	for _, until := range edges {
		if !within(until, 0, end) {
			for _, policy := range policies {
				wantNoPlay(t, nil, full(), nil, policy, until, api.ErrArg)
				wantNoPlay(t, l, full(), []int{0}, policy, until, api.ErrArg)
				wantNoPlay(t, tasks(1, 1, 1), full(), []int{0}, policy, until, api.ErrArg)
			}
			wantNoLates(t, nil, nil, nil, until, api.ErrArg)
			wantNoLates(t, l, []int{0}, nil, until, api.ErrArg)
			wantNoLates(t, tasks(1, 1, 1), []int{0}, make([]api.Done, far+1), until, api.ErrArg)
			continue
		}
		wantPlay(t, nil, full(), nil, edf, until, nil, until)
		wantLates(t, nil, nil, nil, until, nil)
		want, idle := slowPlay(l, full(), []int{3}, edf, until)
		wantPlay(t, l, full(), []int{3}, edf, until, want, idle)
		wantLates(t, l, []int{3}, want, until, nil)
		wantLates(t, l, []int{3}, nil, until, slowLates(l, []int{3}, nil, until))
	}
}

func TestAsManyJobsAsThereMayBe(t *testing.T) {
	for _, c := range []struct {
		l      []api.Task
		first  []int
		until  int
		refuse bool
	}{
		{tasks(1, 1, 1), []int{0}, 2000, false},
		{tasks(1, 1, 1), []int{0}, 2001, true},
		{tasks(1, 1, 1), []int{0}, end, true},
		{tasks(1, 1, 1), []int{500}, 2500, false},
		{tasks(1, 1, 1), []int{500}, 2501, true},
		{tasks(1, 1, 1), []int{far}, far, false},
		{tasks(1, 1, 1), []int{far}, far + 2000, false},
		{tasks(1, 1, 1), []int{far}, far + 2001, true},
		// One that comes behind until has no job, and takes none off those of others.
		{tasks(1, 1, 1, 1, 1, 1), []int{0, far}, 2000, false},
		{tasks(1, 1, 1, 1, 1, 1), []int{0, far}, 2001, true},
		{tasks(1, 1, 1, 1, 1, 1), []int{far, 0}, 2001, true},
		{tasks(1, 10, 1), []int{0}, end, false},
		{tasks(1, 10, 1), []int{9}, end, false},
		{tasks(1, 10, 1, 1, far, 1), []int{0, far}, end, true},
		{tasks(1, 10, 1, 1, far, 1), []int{10, far}, end, false},
		{tasks(1, 9, 1), []int{0}, 17991, false},
		{tasks(1, 9, 1), []int{0}, 18000, false},
		{tasks(1, 9, 1), []int{0}, 18001, true},
		{tasks(2, 3, 2, 2, 3, 2), []int{0, 1}, 3000, false},
		{tasks(2, 3, 2, 2, 3, 2), []int{0, 1}, 3001, true},
		{slices.Repeat(tasks(1, 160, 160), most), make([]int, most), end, false},
		{slices.Repeat(tasks(1, 159, 159), most), make([]int, most), end, true},
		{slices.Repeat(tasks(1, 1, 1), most), make([]int, most), 125, false},
		{slices.Repeat(tasks(1, 1, 1), most), make([]int, most), 126, true},
		{slices.Repeat(tasks(1, 1, 1), most), make([]int, most), end, true},
	} {
		if c.refuse {
			wantNoLates(t, c.l, c.first, nil, c.until, api.ErrLarge)
			wantNoLates(t, c.l, c.first, make([]api.Done, far+1), c.until, api.ErrLarge)
		} else {
			wantLates(t, c.l, c.first, nil, c.until, slowLates(c.l, c.first, nil, c.until))
		}
		for _, policy := range policies {
			// How much time there is has no say in how many come.
			for _, s := range []api.Set{full(), set(7, 2, 4), set(5)} {
				if c.refuse {
					wantNoPlay(t, c.l, s, c.first, policy, c.until, api.ErrLarge)
					continue
				}
				want, idle := slowPlay(c.l, s, c.first, policy, c.until)
				wantPlay(t, c.l, s, c.first, policy, c.until, want, idle)
			}
		}
	}
}

// P6.2

func TestPlay(t *testing.T) {
	two := tasks(2, 6, 6, 1, 4, 2)
	for _, c := range []struct {
		l             []api.Task
		s             api.Set
		first         []int
		policy, until int
		want          []api.Done
		idle          int
	}{
		{nil, full(), nil, edf, 0, nil, 0},
		{nil, full(), nil, fixed, 9, nil, 9},
		{nil, set(3, 1, 2), nil, edf, 8, nil, 3},
		{nil, set(3), nil, edf, 8, nil, 0},
		{two, full(), []int{0, 0}, edf, 0, nil, 0},
		{two, set(3), []int{0, 0}, edf, 9, nil, 0},
		{two, full(), []int{0, 0}, edf, 12, dones(1, 0, 0, 1, 0, 0, 0, 3, 1, 1, 4, 5, 0, 1, 6, 8, 1, 2, 8, 9), 5},
		{two, full(), []int{0, 0}, fixed, 12, dones(0, 0, 0, 2, 1, 0, 0, 3, 1, 1, 4, 5, 0, 1, 6, 8, 1, 2, 8, 9), 5},
		// The job of 0 is half done at 2, and has to wait for what is due ahead of it.
		{two, full(), []int{1, 2}, edf, 4, dones(1, 0, 2, 3, 0, 0, 1, 4), 1},
		{two, full(), []int{1, 2}, fixed, 4, dones(0, 0, 1, 3, 1, 0, 2, 4), 1},
		// Nothing is told of what is not quite done, and nothing is left over while it is worked at.
		{tasks(5, 9, 9), full(), []int{2}, edf, 6, nil, 2},
		{tasks(5, 9, 9), full(), []int{2}, edf, 7, dones(0, 0, 2, 7), 2},
		{tasks(5, 9, 9), full(), []int{2}, edf, 8, dones(0, 0, 2, 7), 3},
		// Due at the same time: the lesser number, also if it came later.
		{tasks(1, 5, 5, 1, 5, 5), full(), []int{0, 0}, edf, 3, dones(0, 0, 0, 1, 1, 0, 0, 2), 1},
		{tasks(1, 9, 3, 3, 9, 5), full(), []int{2, 0}, edf, 5, dones(0, 0, 2, 3, 1, 0, 0, 4), 1},
		{tasks(3, 9, 5, 1, 9, 3), full(), []int{0, 2}, edf, 5, dones(0, 0, 0, 3, 1, 0, 2, 4), 1},
		// By number, what is due later may go first.
		{tasks(2, 9, 9, 1, 9, 1), full(), []int{0, 0}, fixed, 3, dones(0, 0, 0, 2, 1, 0, 0, 3), 0},
		{tasks(2, 9, 9, 1, 9, 1), full(), []int{0, 0}, edf, 3, dones(1, 0, 0, 1, 0, 0, 0, 3), 0},
		// What is late already is worked at all the same, the first one first.
		{tasks(2, 3, 2), set(4, 3, 4), []int{0}, edf, 16, dones(0, 0, 0, 8, 0, 1, 3, 16), 0},
		{tasks(2, 3, 2), set(4, 3, 4), []int{0}, fixed, 16, dones(0, 0, 0, 8, 0, 1, 3, 16), 0},
		// Of tasks that ask for more than there is one may never have its turn by number.
		{tasks(1, 1, 1, 1, 2, 2), full(), []int{0, 0}, fixed, 4, dones(0, 0, 0, 1, 0, 1, 1, 2, 0, 2, 2, 3, 0, 3, 3, 4), 0},
		{tasks(1, 1, 1, 1, 2, 2), full(), []int{0, 0}, edf, 4, dones(0, 0, 0, 1, 0, 1, 1, 2, 1, 0, 0, 3, 0, 2, 2, 4), 0},
		// Only the times of the set count, and they come again.
		{two, set(4, 2, 4), []int{0, 1}, edf, 9, dones(1, 0, 1, 3, 0, 0, 0, 7, 1, 1, 5, 8), 0},
		{tasks(1, 10, 10), set(5, 4, 5), []int{3}, edf, 20, dones(0, 0, 3, 5, 0, 1, 13, 15), 2},
		// A set that is longer than the play.
		{tasks(1, 10, 10), set(api.MaxFrame, 3, 5, 9, api.MaxFrame), []int{0}, edf, 12, dones(0, 0, 0, 4, 0, 1, 10, 11), 3},
		{tasks(1, 10, 10), set(api.MaxFrame, 30, 31), []int{0}, edf, 30, nil, 0},
		// One that comes at until, or never, is none.
		{tasks(1, 10, 10), full(), []int{7}, edf, 7, nil, 7},
		{tasks(1, 10, 10), full(), []int{7}, edf, 8, dones(0, 0, 7, 8), 7},
		{tasks(far, far, far), full(), []int{far}, edf, end, dones(0, 0, far, end), far},
		{tasks(far, far, far), full(), []int{far}, edf, end - 1, nil, far},
	} {
		wantPlay(t, c.l, c.s, c.first, c.policy, c.until, c.want, c.idle)
	}
}

// All sets of up to 4 times, with all tasks of up to 4 and one more, against the slow twin.
func TestPlayAllSmall(t *testing.T) {
	var all []api.Task
	for every := 1; every <= 4; every++ {
		for due := 1; due <= every; due++ {
			for long := 1; long <= due; long++ {
				all = append(all, api.Task{Long: long, Every: every, Due: due})
			}
		}
	}
	source := rand.New(rand.NewSource(1))
	for size := 1; size <= 4; size++ {
		for bits := range 1 << size {
			s := ofBits(size, bits)
			for _, x := range all {
				for _, y := range all {
					l := []api.Task{x, y}
					first := randomFirst(source, 2, 6)
					for _, policy := range policies {
						until := source.Intn(30)
						want, idle := slowPlay(l, s, first, policy, until)
						wantPlay(t, l, s, first, policy, until, want, idle)
						wantLates(t, l, first, want, until, slowLates(l, first, want, until))
					}
				}
			}
		}
	}
}

func TestPlayAtRandom(t *testing.T) {
	source := rand.New(rand.NewSource(2))
	found := map[bool]int{}
	for range 2000 {
		l := randomTasks(source, source.Intn(most+1), 1+source.Intn(60))
		for i := range l {
			l[i].Long = 1 + source.Intn(max(1, l[i].Due/(1+source.Intn(8))))
		}
		size := 1 + source.Intn(20)
		s := ofBits(size, source.Intn(1<<size)|source.Intn(1<<size))
		first := randomFirst(source, len(l), 1+source.Intn(100))
		until := source.Intn(120)
		for _, policy := range policies {
			want, idle := slowPlay(l, s, first, policy, until)
			wantPlay(t, l, s, first, policy, until, want, idle)
			late := slowLates(l, first, want, until)
			wantLates(t, l, first, want, until, late)
			found[len(late) > 0]++
		}
	}
	if found[true] < 200 || found[false] < 200 {
		t.Errorf("too few of one kind: %v", found)
	}
}

// Each time of s is either left over or worked at, whatever is told.
func TestNoTimeIsLost(t *testing.T) {
	source := rand.New(rand.NewSource(3))
	for range 300 {
		l := randomTasks(source, 1+source.Intn(4), 40)
		s := ofBits(9, source.Intn(1<<9))
		first := randomFirst(source, len(l), 50)
		// Nothing comes behind the time at which all is done, so that nothing is half done at until.
		for i := range l {
			l[i].Every = far
		}
		until := 9000
		used, _, _ := task.Use(l)
		of, _ := span.Count(s, 0, until)
		for _, policy := range policies {
			d, idle, e := play.Play(l, s, first, policy, until)
			if e != api.OK || of == 0 && (idle != 0 || len(d) != 0) || of > 0 && (idle+used != of || len(d) != len(l)) {
				t.Errorf("Play(%v, %v, %v, %d) = %v, %d, %v, of %d", l, s, first, policy, d, idle, e, of)
			}
		}
	}
}

// Whoever fits is in time by what is due first, whenever tasks begin to come.
func TestWhoeverFitsIsInTime(t *testing.T) {
	source := rand.New(rand.NewSource(4))
	found := map[bool]int{}
	for range 600 {
		size := 1 + source.Intn(10)
		s := ofBits(size, source.Intn(1<<size)|source.Intn(1<<size)|source.Intn(1<<size))
		l := randomTasks(source, 1+source.Intn(3), 12)
		for i := range l {
			l[i].Long = 1 + source.Intn(max(1, l[i].Due/3))
		}
		fits, _, _ := task.Fits(l, s)
		found[fits]++
		inTime := true
		for range 10 {
			inTime = inTime && playsInTime(t, l, s, randomFirst(source, len(l), 60), 600)
		}
		if fits && !inTime {
			t.Errorf("%v fits %v, but is late", l, s)
		}
		if !fits && startsInTime(t, l, s) {
			t.Errorf("%v does not fit %v, but is in time from each time on", l, s)
		}
	}
	if found[true] < 50 || found[false] < 50 {
		t.Errorf("too few of one kind: %v", found)
	}
}

func playsInTime(t *testing.T, l []api.Task, s api.Set, first []int, until int) bool {
	t.Helper()
	d, _, e := play.Play(l, s, first, edf, until)
	late, f := play.Lates(l, first, d, until)
	if e != api.OK || f != api.OK {
		t.Errorf("%v, %v, %v, %d: %v, %v", l, s, first, until, e, f)
	}
	return len(late) == 0
}

// startsInTime tells if nothing is late, from whichever time of the set on all tasks come at once.
func startsInTime(t *testing.T, l []api.Task, s api.Set) bool {
	t.Helper()
	n, _ := task.Round(l)
	both, _ := num.Lcm([]int{n, s.Size})
	for at := range s.Size {
		if !playsInTime(t, l, s, slices.Repeat([]int{at}, len(l)), min(600, at+2*both)) {
			return false
		}
	}
	return both <= 250
}

// P6.3

func TestLates(t *testing.T) {
	two := tasks(2, 6, 6, 1, 4, 2)
	at := []int{0, 0}
	for _, c := range []struct {
		l     []api.Task
		first []int
		done  []api.Done
		until int
		want  []api.Late
	}{
		{nil, nil, nil, 0, nil},
		{nil, nil, dones(0, 0, 0, 0), 9, nil},
		{two, at, nil, 0, nil},
		{two, at, nil, 1, nil},
		{two, at, nil, 2, lates(1, 0)},
		{two, at, nil, 5, lates(1, 0)},
		{two, at, nil, 6, lates(0, 0, 1, 0, 1, 1)},
		{two, at, nil, 12, lates(0, 0, 0, 1, 1, 0, 1, 1, 1, 2)},
		// What comes below until, and is due behind it, is not late yet.
		{two, at, nil, 13, lates(0, 0, 0, 1, 1, 0, 1, 1, 1, 2)},
		{two, at, nil, 14, lates(0, 0, 0, 1, 1, 0, 1, 1, 1, 2, 1, 3)},
		{two, []int{3, 1}, nil, 9, lates(0, 0, 1, 0, 1, 1)},
		{two, []int{3, 1}, nil, 8, lates(1, 0, 1, 1)},
		// At most when it is due, to the time.
		{two, at, dones(1, 0, 0, 2), 2, nil},
		{two, at, dones(1, 0, 0, 3), 2, lates(1, 0)},
		{two, at, dones(0, 0, 0, 6, 1, 0, 0, 2, 1, 1, 4, 6), 6, nil},
		{two, at, dones(0, 0, 0, 7, 1, 0, 0, 2, 1, 1, 4, 7), 6, lates(0, 0, 1, 1)},
		// By Task and Job: Came has no part in it, nor has an At that can't be.
		{two, at, dones(1, 0, 77, 2), 2, nil},
		{two, at, dones(1, 0, -5, -9), 2, nil},
		{two, at, dones(1, 0, 0, math.MinInt), 2, nil},
		{two, at, dones(1, 0, 0, math.MaxInt), 2, lates(1, 0)},
		{two, at, dones(0, 1, 0, 0), 2, lates(1, 0)},
		// Told several times: one that is in time is enough, wherever it stands.
		{two, at, dones(1, 0, 0, 3, 1, 0, 0, 2, 1, 0, 0, 4), 2, nil},
		{two, at, dones(1, 0, 0, 2, 1, 0, 0, 9), 2, nil},
		{two, at, dones(1, 0, 0, 9, 1, 0, 0, 2), 2, nil},
		{two, at, dones(1, 0, 0, 9, 1, 0, 0, 8), 2, lates(1, 0)},
		// What is told of jobs that there are not is no matter.
		{two, at, dones(2, 0, 0, 1, -1, 0, 0, 1, 1, -1, 0, 1, 1, 9, 0, 1, math.MaxInt, math.MinInt, 0, 1), 2, lates(1, 0)},
		{tasks(far, far, far), []int{far}, nil, end - 1, nil},
		{tasks(far, far, far), []int{far}, nil, end, lates(0, 0)},
		{tasks(1, 1, 1), []int{0}, nil, 3, lates(0, 0, 0, 1, 0, 2)},
		{tasks(1, 1, 1), []int{2}, nil, 3, lates(0, 0)},
		{tasks(1, 1, 1), []int{3}, nil, 3, nil},
	} {
		wantLates(t, c.l, c.first, c.done, c.until, c.want)
	}
}

func TestLatesOfManyDone(t *testing.T) {
	l := tasks(1, 4, 3)
	late := dones(0, 0, 0, 4)
	wantLates(t, l, []int{0}, slices.Repeat(late, far), 4, lates(0, 0))
	wantLates(t, l, []int{0}, slices.Concat(slices.Repeat(late, far-1), dones(0, 0, 0, 3)), 4, nil)
	wantLates(t, l, []int{0}, make([]api.Done, far), 4, nil)
	wantLates(t, nil, nil, make([]api.Done, far), 4, nil)
	for _, n := range []int{far + 1, 5 * far} {
		wantNoLates(t, l, []int{0}, make([]api.Done, n), 4, api.ErrLarge)
		wantNoLates(t, l, []int{0}, make([]api.Done, n), 0, api.ErrLarge)
		wantNoLates(t, nil, nil, make([]api.Done, n), 0, api.ErrLarge)
		// All others are told ahead of it.
		wantNoLates(t, l, nil, make([]api.Done, n), 4, api.ErrForm)
		wantNoLates(t, l, []int{-1}, make([]api.Done, n), 4, api.ErrForm)
		wantNoLates(t, l, []int{0}, make([]api.Done, n), -1, api.ErrArg)
		wantNoLates(t, l, []int{0}, make([]api.Done, n), end+1, api.ErrArg)
		wantNoLates(t, tasks(1, 4, 5), []int{0}, make([]api.Done, n), 4, api.ErrForm)
	}
}

func TestLatesOfAnyList(t *testing.T) {
	source := rand.New(rand.NewSource(5))
	for range 2000 {
		l := randomTasks(source, source.Intn(5), 1+source.Intn(12))
		first := randomFirst(source, len(l), 10)
		until := source.Intn(40)
		var done []api.Done
		for range source.Intn(80) {
			done = append(done, dones(source.Intn(7)-1, source.Intn(8)-1, source.Intn(40), source.Intn(50)-3)...)
		}
		wantLates(t, l, first, done, until, slowLates(l, first, done, until))
	}
}

// P1

func TestAllCallsAnswer(t *testing.T) {
	for _, a := range edges {
		for _, b := range edges {
			for _, c := range edges {
				play.Play(tasks(a, b, c), set(a, b, c), []int{a}, b, c)
				play.Play(tasks(1, 40, 3), full(), []int{a}, b, c)
				play.Play(tasks(1, 40, 3), set(a, b, c), []int{0}, edf, 50)
				play.Lates(tasks(a, b, c), []int{a}, dones(a, b, c, a), b)
				play.Lates(tasks(1, 40, 3), []int{a}, dones(0, b, c, a), c)
				play.Lates(tasks(1, 40, 3), []int{0}, dones(a, b, 0, c), 50)
			}
		}
	}
}

// P2

func TestMemory(t *testing.T) {
	l, s, first := tasks(2, 6, 6, 1, 4, 2), set(12, 0, 5, 6, 11), []int{3, 1}
	for _, policy := range policies {
		told, _, _ := play.Play(l, s, first, policy, 30)
		rooms := []int{len(l), len(s.Spans), len(first), len(told)}
		x := slices.Concat(l, slices.Repeat(tasks(-7, -8, -9), 2*most))
		y := slices.Concat(s.Spans, slices.Repeat([]api.Span{{From: -8, To: -9}}, 400))
		z := slices.Concat(first, slices.Repeat([]int{-6}, 2*most))
		w := slices.Concat(told, slices.Repeat(dones(-1, -2, -3, -4), far))
		wasX, wasY, wasZ, wasW := slices.Clone(x), slices.Clone(y), slices.Clone(z), slices.Clone(w)
		in := api.Set{Size: s.Size, Spans: y[:rooms[1]]}
		d, n, _ := play.Play(x[:rooms[0]], in, z[:rooms[2]], policy, 30)
		late, _ := play.Lates(x[:rooms[0]], z[:rooms[2]], w[:1], 30)
		hadD, hadLate := slices.Clone(d), slices.Clone(late)
		if !slices.Equal(d, told) || len(late) == 0 {
			t.Fatalf("told are %v, %v", d, late)
		}
		// Whoever fills what is answered, its spare room included, changes nothing that is handed in or answered again.
		spoil(d, api.Done{Task: -5})
		spoil(late, api.Late{Task: -5})
		if !slices.Equal(x, wasX) || !slices.Equal(y, wasY) || !slices.Equal(z, wasZ) || !slices.Equal(w, wasW) {
			t.Error("what is handed in is changed")
		}
		play.Play(tasks(1, 5, 5), set(7, 0, 3, 4, 6), []int{2}, 3-policy, 40)
		play.Lates(tasks(1, 5, 5), []int{2}, nil, 40)
		again, m, _ := play.Play(x[:rooms[0]], in, z[:rooms[2]], policy, 30)
		lateAgain, _ := play.Lates(x[:rooms[0]], z[:rooms[2]], w[:1], 30)
		if !slices.Equal(again, hadD) || m != n || !slices.Equal(lateAgain, hadLate) {
			t.Error("something is kept")
		}
	}
}

func spoil[T any](l []T, x T) {
	l = l[:cap(l)]
	for i := range l {
		l[i] = x
	}
}
