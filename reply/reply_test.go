package reply_test

import (
	"math"
	"math/rand"
	"slices"
	"testing"

	"dutyroster/api"
	"dutyroster/play"
	"dutyroster/reply"
	"dutyroster/span"
	"dutyroster/supply"
)

const (
	frame = api.MaxFrame
	most  = api.MaxTasks
	far   = 10000 // how far apart the jobs of a task may be
)

// edges stand on both sides of each bound that the chapter names, and at the ends of an int.
var edges = []int{
	math.MinInt, math.MinInt + 1, -api.MaxNum, -far, -2, -1, 0, 1, 2, 3, 15, 16, 17, far - 1, far, far + 1,
	frame - 1, frame, frame + 1, api.MaxNum, api.MaxNum + 1, math.MaxInt - 1, math.MaxInt,
}

// tasks reads Long, Every and Due of each, one behind the other.
func tasks(l ...int) []api.Task {
	var t []api.Task
	for i := 0; i+2 < len(l); i += 3 {
		t = append(t, api.Task{Long: l[i], Every: l[i+1], Due: l[i+2]})
	}
	return t
}

// set reads the spans of a set from their bounds, one behind the other.
func set(size int, bounds ...int) api.Set {
	s := api.Set{Size: size}
	for i := 0; i+1 < len(bounds); i += 2 {
		s.Spans = append(s.Spans, api.Span{From: bounds[i], To: bounds[i+1]})
	}
	return s
}

func full(size int) api.Set { return set(size, 0, size) }

// ofBits is the set whose times are the ones of bits.
func ofBits(size, bits int) api.Set {
	var l []api.Span
	for t := range size {
		if bits>>t&1 == 1 {
			l = append(l, api.Span{From: t, To: t + 1})
		}
	}
	s, _ := span.Of(size, l)
	return s
}

// gaps is a set of 200 spans, with one time between each two, and one behind the last one.
func gaps(long int) api.Set {
	s := api.Set{Size: api.MaxSpans * (long + 1)}
	for i := range api.MaxSpans {
		s.Spans = append(s.Spans, api.Span{From: i * (long + 1), To: i*(long+1) + long})
	}
	return s
}

// leasts tells of each n up to until what is the least among n in a row, from each time of a round on.
func leasts(s api.Set, until int) []int {
	sums := make([]int, until+s.Size+1)
	for t := range until + s.Size {
		sums[t+1] = sums[t]
		if in, _ := span.Has(s, t); in {
			sums[t+1]++
		}
	}
	l := make([]int, until+1)
	for n := range l {
		l[n] = n
		for at := range s.Size {
			l[n] = min(l[n], sums[at+n]-sums[at])
		}
	}
	return l
}

// askedLeasts tells the same, as package supply has it, where a round is too long to be gone through.
func askedLeasts(s api.Set, until int) []int {
	l := make([]int, until+1)
	for n := range l {
		l[n], _ = supply.Least(s, n)
	}
	return l
}

// slowReply goes through each n, one by one, and through each job that comes within it; 0, if there is none.
func slowReply(l []api.Task, i int, least []int) int {
	for n := 1; n <= l[i].Due; n++ {
		need := l[i].Long
		for _, x := range l[:i] {
			for came := 0; came < n; came += x.Every {
				need += x.Long
			}
		}
		if least[n] >= need {
			return n
		}
	}
	return 0
}

func slowTable(l []api.Task, least []int) []int {
	var r []int
	for i := range l {
		r = append(r, slowReply(l, i, least))
	}
	return r
}

// wantTable holds Table, and Reply of each task, against what is to be told; 0 stands for ErrLate.
func wantTable(t *testing.T, l []api.Task, s api.Set, want ...int) {
	t.Helper()
	if r, e := reply.Table(l, s); !slices.Equal(r, want) || e != api.OK {
		t.Errorf("Table(%v, %v) = %v, %v, want %v", l, s, r, e, want)
	}
	for i, n := range want {
		err := api.OK
		if n == 0 {
			err = api.ErrLate
		}
		wantReply(t, l, i, s, n, err)
	}
}

func wantReply(t *testing.T, l []api.Task, i int, s api.Set, want int, err api.Errno) {
	t.Helper()
	if n, e := reply.Reply(l, i, s); n != want || e != err {
		t.Errorf("Reply(%v, %d, %v) = %d, %v, want %d, %v", l, i, s, n, e, want, err)
	}
}

func wantNoTable(t *testing.T, l []api.Task, s api.Set, err api.Errno) {
	t.Helper()
	if r, e := reply.Table(l, s); r != nil || e != err {
		t.Errorf("Table(%v, %v) = %v, %v, want %v", l, s, r, e, err)
	}
}

func randomTasks(source *rand.Rand, n, far, share int) []api.Task {
	var l []api.Task
	for range n {
		every := 1 + source.Intn(far)
		due := 1 + source.Intn(every)
		l = append(l, api.Task{Long: 1 + source.Intn(max(1, due/share)), Every: every, Due: due})
	}
	return l
}

// P7.1 and P7.2

func TestReplies(t *testing.T) {
	for _, c := range []struct {
		l    []api.Task
		s    api.Set
		want []int
	}{
		{tasks(1, 1, 1), full(1), []int{1}},
		{tasks(1, 4, 4, 4, 9, 9), full(1), []int{1, 6}},
		{tasks(1, 4, 4, 4, 9, 9), full(7), []int{1, 6}},
		// Up to Due, and no further; one that is late is told, whoever is ahead of it and whoever behind.
		{tasks(1, 4, 4, 4, 9, 6), full(1), []int{1, 6}},
		{tasks(1, 4, 4, 4, 9, 5), full(1), []int{1, 0}},
		{tasks(1, 4, 4, 4, 9, 5, 1, 20, 20), full(1), []int{1, 0, 7}},
		{tasks(4, 9, 5, 1, 4, 4), full(1), []int{4, 0}},
		{tasks(4, 9, 5, 1, 8, 5), full(1), []int{4, 5}},
		{tasks(1, 4, 4, 2, 6, 6, 3, 20, 13), full(1), []int{1, 3, 10}},
		{tasks(1, 4, 4, 2, 6, 6, 3, 20, 10), full(1), []int{1, 3, 10}},
		{tasks(1, 4, 4, 2, 6, 6, 3, 20, 9), full(1), []int{1, 3, 0}},
		// A job that comes when n times are over is not one of them: at 4 and 6 the next ones come.
		{tasks(2, 4, 4, 2, 4, 4), full(1), []int{2, 4}},
		{tasks(2, 4, 4, 3, 9, 9), full(1), []int{2, 7}},
		{tasks(1, 2, 2, 1, 3, 3, 1, 6, 6), full(1), []int{1, 2, 6}},
		{tasks(1, 2, 2, 1, 3, 3, 1, 6, 5), full(1), []int{1, 2, 0}},
		// Nothing is left by one that takes all.
		{tasks(1, 1, 1, 1, far, far), full(1), []int{1, 0}},
		{tasks(2, 2, 2, 1, far, far), full(1), []int{2, 0}},
		// Due of those ahead has no part in it, nor whether they are in time.
		{tasks(2, 4, 2, 2, 4, 4), full(1), []int{2, 4}},
		{tasks(2, 4, 2, 1, 9, 9), set(2, 0, 1), []int{0, 0}},
		{tasks(2, 5, 2, 1, 9, 9), set(2, 0, 1), []int{0, 0}},
		{tasks(2, 6, 2, 1, 9, 9), set(2, 0, 1), []int{0, 6}},
		{tasks(2, 6, 4, 1, 9, 9), set(2, 0, 1), []int{4, 6}},
		// The least that there may be, not what there is from 0 on.
		{tasks(1, 5, 5), set(5, 0, 2), []int{4}},
		{tasks(1, 5, 3), set(5, 0, 2), []int{0}},
		{tasks(2, 5, 5), set(5, 0, 2), []int{5}},
		{tasks(2, 5, 5), set(5, 3, 5), []int{5}},
		{tasks(3, 9, 9), set(5, 0, 2), []int{9}},
		{tasks(1, 4, 4), set(4, 0, 1), []int{4}},
		{tasks(1, 4, 3), set(4, 0, 1), []int{0}},
		{tasks(1, 4, 4, 2, 6, 6, 3, 20, 13), set(4, 0, 2), []int{3, 0, 0}},
		{tasks(1, 10, 10), set(10, 0, 2, 8, 10), []int{7}},
		{tasks(1, 10, 10), set(10, 3, 7), []int{7}},
		// A set without times.
		{tasks(1, 1, 1), set(3), []int{0}},
		{tasks(1, far, far, 1, 2, 2), set(frame), []int{0, 0}},
		{nil, full(1), nil},
		{[]api.Task{}, set(3), nil},
	} {
		wantTable(t, c.l, c.s, c.want...)
	}
}

func TestRepliesAtTheGreatest(t *testing.T) {
	for _, c := range []struct {
		l    []api.Task
		s    api.Set
		want []int
	}{
		{tasks(far, far, far), full(1), []int{far}},
		{tasks(far, far, far), full(frame), []int{far}},
		{tasks(far, far, far), set(frame, 0, frame-1), []int{0}},
		{tasks(far-1, far, far), set(frame, 0, frame-1), []int{far}},
		{tasks(1, far, far), set(frame, 0, frame-far+1), []int{far}},
		{tasks(1, far, far), set(frame, 0, frame-far), []int{0}},
		{tasks(1, far, far), set(frame, 0, 1), []int{0}},
		{tasks(1, far, far), set(far, far-1, far), []int{far}},
		{tasks(1, 2, 2, far/2, far, far), full(1), []int{1, far}},
		{tasks(1, 2, 2, far/2, far, far-1), full(1), []int{1, 0}},
		{tasks(1, 2, 2, far/2+1, far, far), full(1), []int{1, 0}},
		{tasks(far-1, far, far, 1, far, far), full(1), []int{far - 1, far}},
		{tasks(far/2+1, far/2+1, far/2+1, 1, far, far), full(1), []int{far/2 + 1, 0}},
	} {
		wantTable(t, c.l, c.s, c.want...)
	}
	// As many tasks as there may be: each waits for all those ahead of it.
	var rising, late []int
	for i := range most {
		rising, late = append(rising, (i+1)*(far/most)), append(late, 0)
	}
	wantTable(t, slices.Repeat(tasks(far/most, far, far), most), full(1), rising...)
	// As much need as there may be.
	late[0] = 5001
	wantTable(t, slices.Repeat(tasks(5001, 5001, 5001), most), full(1), late...)
	late[0] = far
	wantTable(t, slices.Repeat(tasks(far, far, far), most), full(1), late...)
	late[0] = 0
	wantTable(t, slices.Repeat(tasks(far, far, far), most), set(frame, 0, 1), late...)
}

// All sets of up to 6 times, with all tasks of up to 6 behind one or two others.
func TestRepliesAllSmall(t *testing.T) {
	var all []api.Task
	for every := 1; every <= 6; every++ {
		for due := 1; due <= every; due++ {
			for long := 1; long <= due; long++ {
				all = append(all, api.Task{Long: long, Every: every, Due: due})
			}
		}
	}
	source := rand.New(rand.NewSource(1))
	for size := 1; size <= 6; size++ {
		for bits := range 1 << size {
			s := ofBits(size, bits)
			least := leasts(s, 20)
			for _, x := range all {
				y, z := all[source.Intn(len(all))], all[source.Intn(len(all))]
				last := api.Task{Long: x.Long, Every: 20, Due: 20}
				for _, l := range [][]api.Task{{x}, {y, x}, {y, z, x}, {y, last}, {y, z, last}} {
					wantTable(t, l, s, slowTable(l, least)...)
				}
			}
		}
	}
}

func TestRepliesAtRandom(t *testing.T) {
	source := rand.New(rand.NewSource(2))
	inTime, late := 0, 0
	for range 1000 {
		size := 1 + source.Intn(30)
		s := ofBits(size, source.Intn(1<<size)|source.Intn(1<<size)|source.Intn(1<<size))
		l := randomTasks(source, source.Intn(most+1), 1+source.Intn(200), 1+source.Intn(20))
		want := slowTable(l, leasts(s, 200))
		wantTable(t, l, s, want...)
		for _, n := range want {
			if n > 0 {
				inTime++
			} else {
				late++
			}
		}
	}
	if inTime < 1000 || late < 1000 {
		t.Errorf("too few of one kind: %d in time, %d late", inTime, late)
	}
}

func TestRepliesOfLongSets(t *testing.T) {
	source := rand.New(rand.NewSource(3))
	for _, s := range []api.Set{gaps(1), gaps(9), gaps(249), gaps(4999), set(frame, 7, 400, 3000, 999000), full(frame)} {
		least := askedLeasts(s, far)
		for _, l := range [][]api.Task{
			tasks(1, 2, 2, 1, 4, 4, 1, 8, 8, 1, 16, 16, 1, 80, 80, 1, 400, 400, 9, far, far),
			tasks(1, 1, 1, 1, far, far, 1, far, far),
			tasks(249, 250, 250, 1, far, far),
			tasks(1, 10, 10, 100, 1000, 1000, 1000, far, far, 5000, far, far),
			randomTasks(source, 8, far, 8),
			randomTasks(source, most, far, 30),
		} {
			wantTable(t, l, s, slowTable(l, least)...)
		}
	}
}

// In a set of all times a reply is what the first job takes, by number, if all come at once.
func TestRepliesArePlayed(t *testing.T) {
	source := rand.New(rand.NewSource(4))
	for range 500 {
		l := randomTasks(source, 1+source.Intn(6), 40, 4)
		done, _, _ := play.Play(l, full(1), make([]int, len(l)), api.PFixed, 40)
		want := make([]int, len(l))
		for _, d := range done {
			if d.Job == 0 && d.At <= l[d.Task].Due {
				want[d.Task] = d.At
			}
		}
		wantTable(t, l, full(1), want...)
	}
}

// Whoever has a reply has each job done within it, whenever all others begin to come.
func TestWhoeverHasAReplyIsInTime(t *testing.T) {
	const until = 800
	source := rand.New(rand.NewSource(5))
	for range 300 {
		size := 1 + source.Intn(12)
		s := ofBits(size, source.Intn(1<<size)|source.Intn(1<<size))
		l := randomTasks(source, 1+source.Intn(5), 60, 6)
		first := make([]int, len(l))
		for i := range first {
			first[i] = source.Intn(70)
		}
		replies, _ := reply.Table(l, s)
		done, _, e := play.Play(l, s, first, api.PFixed, until)
		if e != api.OK {
			continue
		}
		jobs := make([]int, len(l))
		for _, d := range done {
			jobs[d.Task]++
			if n := replies[d.Task]; n > 0 && d.At-d.Came > n {
				t.Errorf("%v takes more than %d: %v, %v, %v", d, n, l, s, first)
			}
		}
		for i, n := range replies {
			if n > 0 && first[i]+jobs[i]*l[i].Every+n <= until {
				t.Errorf("job %d of task %d is not done: %v, %v, %v", jobs[i], i, l, s, first)
			}
		}
	}
}

func TestWrongTasksAreToldAheadOfAll(t *testing.T) {
	for err, l := range map[api.Errno][][]api.Task{
		api.ErrForm: {
			{{}}, tasks(0, 4, 3), tasks(4, 4, 3), tasks(1, 4, 0), tasks(1, 4, 5), tasks(1, far+1, 1), tasks(1, 2, 2, -1, 4, 3),
			tasks(math.MaxInt, math.MaxInt, math.MaxInt), make([]api.Task, most),
		},
		api.ErrLarge: {make([]api.Task, most+1), slices.Repeat(tasks(1, 4, 3), most+1)},
	} {
		for _, x := range l {
			for _, s := range []api.Set{full(1), set(3), {}, set(-1), set(9, 5, 10), {Size: 1, Spans: make([]api.Span, 300)}} {
				for _, i := range []int{math.MinInt, -1, 0, len(x) - 1, len(x), math.MaxInt} {
					wantReply(t, x, i, s, 0, err)
				}
				wantNoTable(t, x, s, err)
			}
		}
	}
}

func TestWrongSetsAreToldNext(t *testing.T) {
	for err, l := range map[api.Errno][]api.Set{
		api.ErrArg:   {{}, set(0, 0, 1), set(frame+1, 0, 1), set(-1), set(math.MinInt, 0, 1), set(math.MaxInt)},
		api.ErrLarge: {{Size: frame, Spans: make([]api.Span, api.MaxSpans+1)}},
		api.ErrForm:  {set(9, 1, 2, 2, 3), set(9, 3, 3), set(9, 5, 10), set(9, -1, 2), set(9, 3, 4, 1, 2)},
	} {
		for _, s := range l {
			for _, x := range [][]api.Task{nil, tasks(1, 4, 3), tasks(4, 4, 4, 1, 9, 9)} {
				for _, i := range []int{math.MinInt, -1, 0, 1, 2, math.MaxInt} {
					wantReply(t, x, i, s, 0, err)
				}
				wantNoTable(t, x, s, err)
			}
		}
	}
}

func TestReplyOfNoTask(t *testing.T) {
	many := slices.Repeat(tasks(1, 99, 99), most)
	for _, l := range [][]api.Task{nil, {}, many[:1], many[:2], many[:15], many} {
		for _, i := range append(edges, len(l)-1, len(l)) {
			if 0 <= i && i < len(l) {
				wantReply(t, l, i, full(1), i+1, api.OK)
				wantReply(t, l, i, set(5), 0, api.ErrLate)
				continue
			}
			wantReply(t, l, i, full(1), 0, api.ErrNone)
			wantReply(t, l, i, set(5), 0, api.ErrNone)
		}
	}
	// What stands behind the list is no task of it.
	wantReply(t, many[:3], 3, full(1), 0, api.ErrNone)
}

// P1

func TestAllCallsAnswer(t *testing.T) {
	for _, a := range edges {
		for _, b := range edges {
			for _, c := range edges {
				for _, l := range [][]api.Task{tasks(a, b, c), tasks(1, 2, 2, a, b, c), tasks(1, 4, 3)} {
					reply.Reply(l, a, set(a, b, c))
					reply.Reply(l, 0, set(c, b, a))
					reply.Reply(l, len(l)-1, full(1))
					reply.Table(l, set(a, b, c))
					reply.Table(l, full(1))
				}
			}
		}
	}
}

// P2

func TestMemory(t *testing.T) {
	s := set(12, 0, 5, 6, 11)
	for _, l := range [][]api.Task{nil, tasks(1, 4, 3), tasks(2, 6, 6, 1, 4, 3, 1, 12, 9), tasks(1, 4, 3, 4, 3, 2)} {
		room := slices.Concat(l, slices.Repeat(tasks(-7, -8, -9), 2*most))
		times := slices.Concat(s.Spans, slices.Repeat([]api.Span{{From: -8, To: -9}}, 400))
		was, had := slices.Clone(room), slices.Clone(times)
		x := room[:len(l)]
		y := api.Set{Size: s.Size, Spans: times[:len(s.Spans)]}
		first, e := reply.Table(x, y)
		kept := slices.Clone(first)
		reply.Reply(x, len(x)-1, y)
		if !slices.Equal(room, was) || !slices.Equal(times, had) {
			t.Errorf("what is handed in is changed: %v", l)
		}
		reply.Table(tasks(1, 5, 5, 1, 7, 2), set(7, 0, 3, 4, 6))
		second, f := reply.Table(x, y)
		if !slices.Equal(first, kept) || !slices.Equal(second, kept) || e != f {
			t.Errorf("something is kept of %v", l)
		}
		fill(first, -1)
		if !slices.Equal(second, kept) {
			t.Errorf("two answers share memory: %v", l)
		}
	}
}

// fill writes to all of a list, its spare room included.
func fill(l []int, x int) {
	l = l[:cap(l)]
	for i := range l {
		l[i] = x
	}
}
