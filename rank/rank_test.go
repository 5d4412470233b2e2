package rank_test

import (
	"math"
	"math/rand"
	"slices"
	"testing"

	"dutyroster/api"
	"dutyroster/play"
	"dutyroster/rank"
	"dutyroster/reply"
	"dutyroster/span"
)

const (
	frame = api.MaxFrame
	most  = api.MaxTasks
	far   = 10000 // how far apart the jobs of a task may be
)

// edges stand on both sides of each bound that the chapter names, and at the ends of an int.
var edges = []int{
	math.MinInt, math.MinInt + 1, -api.MaxNum, -far, -2, -1, 0, 1, 2, 3, 15, 16, 17, far - 1, far, far + 1,
	frame - 1, frame, frame + 1, api.MaxNum, api.MaxNum + 1, math.MaxInt - 1, math.MaxInt,
}

// tasks reads Long, Every and Due of each, one behind the other.
func tasks(l ...int) []api.Task {
	var t []api.Task
	for i := 0; i+2 < len(l); i += 3 {
		t = append(t, api.Task{Long: l[i], Every: l[i+1], Due: l[i+2]})
	}
	return t
}

// set reads the spans of a set from their bounds, one behind the other.
func set(size int, bounds ...int) api.Set {
	s := api.Set{Size: size}
	for i := 0; i+1 < len(bounds); i += 2 {
		s.Spans = append(s.Spans, api.Span{From: bounds[i], To: bounds[i+1]})
	}
	return s
}

func full() api.Set { return set(1, 0, 1) }

// ofBits is the set whose times are the ones of bits.
func ofBits(size, bits int) api.Set {
	var l []api.Span
	for t := range size {
		if bits>>t&1 == 1 {
			l = append(l, api.Span{From: t, To: t + 1})
		}
	}
	s, _ := span.Of(size, l)
	return s
}

// leasts tells of each n up to until what is the least among n in a row, from each time of a round on.
func leasts(s api.Set, until int) []int {
	sums := make([]int, until+s.Size+1)
	for t := range until + s.Size {
		sums[t+1] = sums[t]
		if in, _ := span.Has(s, t); in {
			sums[t+1]++
		}
	}
	l := make([]int, until+1)
	for n := range l {
		l[n] = n
		for at := range s.Size {
			l[n] = min(l[n], sums[at+n]-sums[at])
		}
	}
	return l
}

// inTime goes through each n, one by one, and through each job of those ahead that comes within it.
func inTime(l []api.Task, ahead []int, i int, least []int) bool {
	for n := 1; n <= l[i].Due; n++ {
		need := l[i].Long
		for _, other := range ahead {
			for came := 0; came < n; came += l[other].Every {
				need += l[other].Long
			}
		}
		if least[n] >= need {
			return true
		}
	}
	return false
}

func slowGood(l []api.Task, order, least []int) bool {
	for place, i := range order {
		if !inTime(l, order[:place], i, least) {
			return false
		}
	}
	return true
}

// slowFind puts those that have a place yet at the end, one ahead of the other; nil and false, if there is none.
func slowFind(l []api.Task, least []int) ([]int, bool) {
	var order []int
	for len(order) < len(l) {
		found := -1
		for i := len(l) - 1; i >= 0; i-- {
			var others []int
			for other := len(l) - 1; other >= 0; other-- {
				if other != i && !slices.Contains(order, other) {
					others = append(others, other)
				}
			}
			if !slices.Contains(order, i) && inTime(l, others, i, least) {
				found = i
			}
		}
		if found < 0 {
			return nil, false
		}
		order = append([]int{found}, order...)
	}
	return order, true
}

// slowOrder takes again and again, of those that are left, the first one that has the least key.
func slowOrder(keys []int) []int {
	var order []int
	for len(order) < len(keys) {
		best := -1
		for i, k := range keys {
			if !slices.Contains(order, i) && (best < 0 || k < keys[best]) {
				best = i
			}
		}
		order = append(order, best)
	}
	return order
}

// orders tells all orders of n tasks.
func orders(n int) [][]int {
	if n == 0 {
		return [][]int{nil}
	}
	var all [][]int
	for _, x := range orders(n - 1) {
		for place := range n {
			all = append(all, slices.Insert(slices.Clone(x), place, n-1))
		}
	}
	return all
}

func everies(l []api.Task) []int {
	var k []int
	for _, x := range l {
		k = append(k, x.Every)
	}
	return k
}

func dues(l []api.Task) []int {
	var k []int
	for _, x := range l {
		k = append(k, x.Due)
	}
	return k
}

func randomTasks(source *rand.Rand, n, far, share int) []api.Task {
	var l []api.Task
	for range n {
		every := 1 + source.Intn(far)
		due := 1 + source.Intn(every)
		l = append(l, api.Task{Long: 1 + source.Intn(max(1, due/share)), Every: every, Due: due})
	}
	return l
}

func wantByDue(t *testing.T, l []api.Task, want []int, err api.Errno) {
	t.Helper()
	if o, e := rank.ByDue(l); !slices.Equal(o, want) || e != err {
		t.Errorf("ByDue(%v) = %v, %v, want %v, %v", l, o, e, want, err)
	}
}

func wantByEvery(t *testing.T, l []api.Task, want []int, err api.Errno) {
	t.Helper()
	if o, e := rank.ByEvery(l); !slices.Equal(o, want) || e != err {
		t.Errorf("ByEvery(%v) = %v, %v, want %v, %v", l, o, e, want, err)
	}
}

func wantOf(t *testing.T, l []api.Task, order []int, want []api.Task, err api.Errno) {
	t.Helper()
	if x, e := rank.Of(l, order); !slices.Equal(x, want) || e != err {
		t.Errorf("Of(%v, %v) = %v, %v, want %v, %v", l, order, x, e, want, err)
	}
}

func wantGood(t *testing.T, l []api.Task, order []int, s api.Set, want bool, err api.Errno) {
	t.Helper()
	if ok, e := rank.Good(l, order, s); ok != want || e != err {
		t.Errorf("Good(%v, %v, %v) = %v, %v, want %v, %v", l, order, s, ok, e, want, err)
	}
}

func wantFind(t *testing.T, l []api.Task, s api.Set, want []int, err api.Errno) {
	t.Helper()
	if o, e := rank.Find(l, s); !slices.Equal(o, want) || e != err {
		t.Errorf("Find(%v, %v) = %v, %v, want %v, %v", l, s, o, e, want, err)
	}
}

// P8.1

func TestByDueAndByEvery(t *testing.T) {
	for _, c := range []struct {
		l            []api.Task
		due, byEvery []int
	}{
		{nil, nil, nil},
		{[]api.Task{}, nil, nil},
		{tasks(1, 4, 3), []int{0}, []int{0}},
		{tasks(1, 9, 2, 1, 4, 3), []int{0, 1}, []int{1, 0}},
		{tasks(1, 4, 3, 1, 9, 2), []int{1, 0}, []int{0, 1}},
		{tasks(2, 10, 9, 1, 4, 4, 1, 6, 2, 1, 12, 4), []int{2, 1, 3, 0}, []int{1, 2, 0, 3}},
		// Of several with the same it is the number that tells, not Long nor the other one.
		{tasks(3, 9, 5, 2, 8, 5, 1, 7, 5), []int{0, 1, 2}, []int{2, 1, 0}},
		{tasks(3, 9, 8, 2, 9, 7, 1, 9, 6), []int{2, 1, 0}, []int{0, 1, 2}},
		{tasks(5, 9, 9, 1, 9, 9, 3, 9, 9, 1, 8, 8), []int{3, 0, 1, 2}, []int{3, 0, 1, 2}},
		{tasks(1, far, far, 1, far, 1, 1, 1, 1, far, far, far), []int{1, 2, 0, 3}, []int{2, 0, 1, 3}},
	} {
		wantByDue(t, c.l, c.due, api.OK)
		wantByEvery(t, c.l, c.byEvery, api.OK)
	}
}

func TestByDueAndByEveryAtRandom(t *testing.T) {
	source := rand.New(rand.NewSource(1))
	for range 2000 {
		l := randomTasks(source, source.Intn(most+1), 1+source.Intn(20), 1)
		wantByDue(t, l, slowOrder(dues(l)), api.OK)
		wantByEvery(t, l, slowOrder(everies(l)), api.OK)
	}
	// As many with the same as there may be.
	for range 50 {
		l := slices.Repeat(tasks(1, 4, 3, 1, 4, 2), most/2)
		source.Shuffle(most, func(i, j int) { l[i], l[j] = l[j], l[i] })
		wantByDue(t, l, slowOrder(dues(l)), api.OK)
		wantByEvery(t, l, slowOrder(everies(l)), api.OK)
	}
}

func TestOf(t *testing.T) {
	l := tasks(1, 4, 3, 2, 6, 6, 3, 9, 8)
	wantOf(t, nil, nil, nil, api.OK)
	wantOf(t, nil, []int{}, nil, api.OK)
	wantOf(t, []api.Task{}, nil, nil, api.OK)
	wantOf(t, l[:1], []int{0}, l[:1], api.OK)
	wantOf(t, l, []int{0, 1, 2}, l, api.OK)
	wantOf(t, l, []int{2, 1, 0}, tasks(3, 9, 8, 2, 6, 6, 1, 4, 3), api.OK)
	// The first number is whose first place it is, not the place of the first task.
	wantOf(t, l, []int{1, 2, 0}, tasks(2, 6, 6, 3, 9, 8, 1, 4, 3), api.OK)
	wantOf(t, l, []int{2, 0, 1}, tasks(3, 9, 8, 1, 4, 3, 2, 6, 6), api.OK)
	// Tasks that are the same have numbers of their own.
	wantOf(t, slices.Repeat(l[:1], 3), []int{1, 2, 0}, slices.Repeat(l[:1], 3), api.OK)

	source := rand.New(rand.NewSource(2))
	for n := range most + 1 {
		l := randomTasks(source, n, far, 3)
		order := source.Perm(n)
		var want []api.Task
		for _, i := range order {
			want = append(want, l[i])
		}
		wantOf(t, l, order, want, api.OK)
	}
}

// wrongOrders of as many tasks: those that lack some, have one twice, or one that there is not.
func wrongOrders(n int) [][]int {
	plain := make([]int, n)
	for i := range plain {
		plain[i] = i
	}
	wrong := [][]int{append(slices.Clone(plain), n), append(slices.Clone(plain), 0), append([]int{-1}, plain...), make([]int, 1000)}
	if n > 0 {
		wrong = append(wrong, nil, []int{}, plain[1:], plain[:n-1])
	}
	for place := range n {
		for _, x := range append(edges, n, n+1, -n) {
			if x == place {
				continue
			}
			// Another number than its own is one that there is not, or another one's, too.
			one := slices.Clone(plain)
			one[place] = x
			wrong = append(wrong, one)
		}
	}
	return wrong
}

func TestWrongOrders(t *testing.T) {
	for _, l := range [][]api.Task{nil, tasks(1, 4, 3), tasks(1, 9, 9, 1, 9, 8), tasks(4, 4, 4, 1, 4, 4, 1, 3, 3), slices.Repeat(tasks(1, 99, 99), most)} {
		for _, order := range wrongOrders(len(l)) {
			wantOf(t, l, order, nil, api.ErrForm)
			// Ahead of the set's error.
			for _, s := range []api.Set{full(), set(3), {}, set(-1), set(9, 5, 10), {Size: 1, Spans: make([]api.Span, 300)}} {
				wantGood(t, l, order, s, false, api.ErrForm)
			}
		}
	}
	// What stands behind the lists is no part of them.
	l, order := tasks(1, 4, 3, 1, 5, 4, 1, 6, 5), []int{0, 1, 2}
	wantOf(t, l[:2], order, nil, api.ErrForm)
	wantOf(t, l, order[:2], nil, api.ErrForm)
	wantOf(t, l[:2], order[1:], nil, api.ErrForm)
}

func TestGood(t *testing.T) {
	l := tasks(2, 10, 9, 1, 4, 4, 1, 6, 2, 1, 12, 4)
	for _, c := range []struct {
		l     []api.Task
		order []int
		s     api.Set
		want  bool
	}{
		{l, []int{0, 1, 2, 3}, full(), false},
		{l, []int{2, 3, 1, 0}, full(), true},
		{l, []int{2, 1, 3, 0}, full(), true},
		{l, []int{3, 2, 1, 0}, full(), true},
		{l, []int{0, 2, 3, 1}, full(), false},
		{l, []int{2, 1, 3, 0}, set(2, 0, 1), false},
		// Up to Due, and no further.
		{tasks(1, 4, 4, 4, 9, 6), []int{0, 1}, full(), true},
		{tasks(1, 4, 4, 4, 9, 5), []int{0, 1}, full(), false},
		{tasks(1, 5, 5, 4, 9, 4), []int{0, 1}, full(), false},
		{tasks(1, 5, 5, 4, 9, 4), []int{1, 0}, full(), true},
		// One that is late is enough, wherever it goes.
		{tasks(2, 6, 2, 1, 9, 9), []int{0, 1}, set(2, 0, 1), false},
		{tasks(2, 6, 2, 1, 9, 9), []int{1, 0}, set(2, 0, 1), false},
		{tasks(1, 9, 9, 1, 9, 9, 5, 9, 6), []int{1, 0, 2}, full(), false},
		{tasks(1, 9, 9, 1, 9, 9, 5, 9, 6), []int{1, 2, 0}, full(), true},
		{tasks(far, far, far), []int{0}, set(frame, 0, frame), true},
		{tasks(far, far, far), []int{0}, set(frame, 0, frame-1), false},
		{tasks(1, 1, 1), []int{0}, set(1), false},
		{nil, nil, full(), true},
		{nil, []int{}, set(3), true},
		{[]api.Task{}, nil, set(3), true},
	} {
		wantGood(t, c.l, c.order, c.s, c.want, api.OK)
	}
}

func TestGoodAtRandom(t *testing.T) {
	source := rand.New(rand.NewSource(3))
	var seen [2]int
	for range 3000 {
		size := 1 + source.Intn(20)
		s := ofBits(size, source.Intn(1<<size)|source.Intn(1<<size)|source.Intn(1<<size))
		l := randomTasks(source, 1+source.Intn(5), 1+source.Intn(60), 1+source.Intn(20))
		order := source.Perm(len(l))
		want := slowGood(l, order, leasts(s, 60))
		wantGood(t, l, order, s, want, api.OK)
		if want {
			seen[1]++
		} else {
			seen[0]++
		}
	}
	if min(seen[0], seen[1]) < 300 {
		t.Errorf("too few of one kind: %v", seen)
	}
}

// P8.2

func TestFind(t *testing.T) {
	l := tasks(2, 10, 9, 1, 4, 4, 1, 6, 2, 1, 12, 4)
	for _, c := range []struct {
		l    []api.Task
		s    api.Set
		want []int
	}{
		{nil, full(), nil},
		{[]api.Task{}, full(), nil},
		{nil, set(3), nil},
		{nil, set(frame), nil},
		{tasks(1, 1, 1), full(), []int{0}},
		{l, full(), []int{3, 2, 1, 0}},
		// Where all orders would do, the least number is the last one.
		{tasks(1, 9, 9, 1, 9, 9, 1, 9, 9), full(), []int{2, 1, 0}},
		{tasks(1, 9, 9, 1, 8, 8, 1, 7, 7), full(), []int{2, 1, 0}},
		{tasks(1, 7, 7, 1, 8, 8, 1, 9, 9), full(), []int{2, 1, 0}},
		{slices.Repeat(tasks(1, most, most), most), full(), []int{15, 14, 13, 12, 11, 10, 9, 8, 7, 6, 5, 4, 3, 2, 1, 0}},
		// Where one order does.
		{tasks(1, 4, 4, 4, 9, 6), full(), []int{0, 1}},
		{tasks(4, 9, 6, 1, 4, 4), full(), []int{1, 0}},
		{tasks(1, 9, 1, 1, 9, 2, 1, 9, 3), full(), []int{0, 1, 2}},
		{tasks(1, 9, 2, 1, 9, 3, 1, 9, 1), full(), []int{2, 0, 1}},
		{tasks(1, 9, 3, 1, 9, 1, 1, 9, 2), full(), []int{1, 2, 0}},
		// The last place is taken by 0, that of the rest by 2: only what has no place yet is ahead.
		{tasks(1, 9, 9, 1, 9, 1, 1, 9, 2), full(), []int{1, 2, 0}},
		{tasks(1, 9, 3, 1, 9, 3, 1, 9, 1), full(), []int{2, 1, 0}},
		// The least that there may be, not what there is from 0 on.
		{tasks(1, 9, 8, 1, 9, 8), set(9, 0, 3), []int{1, 0}},
		{tasks(1, 9, 7, 1, 9, 8), set(9, 0, 3), []int{0, 1}},
		{tasks(1, 4, 4), set(4, 0, 1), []int{0}},
		{tasks(far/2, far, far, 1, 2, 2), full(), []int{1, 0}},
		{tasks(1, far, far, far-1, far, far), full(), []int{1, 0}},
		{tasks(1, far, far-1, far-1, far, far), full(), []int{0, 1}},
		{tasks(far-1, far, far), set(frame, 0, frame-1), []int{0}},
	} {
		wantFind(t, c.l, c.s, c.want, api.OK)
	}
	for _, c := range []struct {
		l []api.Task
		s api.Set
	}{
		{tasks(1, 1, 1), set(1)},
		{tasks(1, far, far), set(frame)},
		{l, set(2, 0, 1)},
		{tasks(1, 4, 4), set(5, 0, 1)},
		{tasks(1, 1, 1, 1, far, far), full()},
		{tasks(1, 9, 1, 1, 9, 1), full()},
		{tasks(2, 9, 4, 3, 9, 4), full()},
		{tasks(1, 4, 4, 4, 9, 5), full()},
		{tasks(far, far, far), set(frame, 0, frame-1)},
		// Some have places, and then no more.
		{tasks(1, 20, 20, 1, 20, 20, 1, 9, 1, 1, 9, 1), full()},
		{tasks(1, 20, 20, 2, 9, 2, 1, 9, 1), full()},
		{slices.Repeat(tasks(1, most-1, most-1), most), full()},
	} {
		wantFind(t, c.l, c.s, nil, api.ErrLate)
	}
}

// All tasks of up to 4, two at a time with a third one, in all sets of up to 4 times.
func TestFindAllSmall(t *testing.T) {
	var all []api.Task
	for every := 1; every <= 4; every++ {
		for due := 1; due <= every; due++ {
			for long := 1; long <= due; long++ {
				all = append(all, api.Task{Long: long, Every: every, Due: due})
			}
		}
	}
	source := rand.New(rand.NewSource(4))
	for size := 1; size <= 4; size++ {
		for bits := range 1 << size {
			s := ofBits(size, bits)
			least := leasts(s, 20)
			for _, x := range all {
				for _, y := range all {
					more := api.Task{Long: 1 + source.Intn(4), Every: 20, Due: 4 + source.Intn(17)}
					for _, l := range [][]api.Task{{x, y}, {x, y, more}, {x, more, y}, {more, x, y}} {
						wantFound(t, l, s, least)
					}
				}
			}
		}
	}
}

// wantFound holds Find against the slow twin, and tells if there is an order.
func wantFound(t *testing.T, l []api.Task, s api.Set, least []int) bool {
	t.Helper()
	want, ok := slowFind(l, least)
	if ok {
		wantFind(t, l, s, want, api.OK)
		wantGood(t, l, want, s, true, api.OK)
	} else {
		wantFind(t, l, s, nil, api.ErrLate)
	}
	return ok
}

func TestFindAtRandom(t *testing.T) {
	source := rand.New(rand.NewSource(5))
	var seen [2]int
	for range 2000 {
		size := 1 + source.Intn(20)
		s := ofBits(size, source.Intn(1<<size)|source.Intn(1<<size)|source.Intn(1<<size))
		l := randomTasks(source, 1+source.Intn(most), 1+source.Intn(200), 5+source.Intn(60))
		if wantFound(t, l, s, leasts(s, 200)) {
			seen[1]++
		} else {
			seen[0]++
		}
	}
	if min(seen[0], seen[1]) < 300 {
		t.Errorf("too few of one kind: %v", seen)
	}
}

// Find has an order, if any is good; and it is the one whose numbers, read from its end, are the least ones.
func TestFindIsTheFirstGoodOneFromItsEnd(t *testing.T) {
	source := rand.New(rand.NewSource(6))
	var all [6][][]int
	for n := range all {
		all[n] = orders(n)
	}
	for range 300 {
		size := 1 + source.Intn(8)
		s := ofBits(size, source.Intn(1<<size)|source.Intn(1<<size)|source.Intn(1<<size))
		l := randomTasks(source, 1+source.Intn(5), 30, 6)
		var best []int
		for _, order := range all[len(l)] {
			ok, e := rank.Good(l, order, s)
			if e != api.OK {
				t.Fatalf("Good(%v, %v, %v): %v", l, order, s, e)
			}
			slices.Reverse(order)
			if ok && (best == nil || slices.Compare(order, best) < 0) {
				best = slices.Clone(order)
			}
			slices.Reverse(order)
		}
		slices.Reverse(best)
		if best == nil {
			wantFind(t, l, s, nil, api.ErrLate)
		} else {
			wantFind(t, l, s, best, api.OK)
		}
	}
}

// Whoever goes by an order that Find tells is never late, whenever tasks begin to come.
func TestFoundOrdersArePlayedInTime(t *testing.T) {
	const until = 500
	source := rand.New(rand.NewSource(7))
	played := 0
	for range 1000 {
		size := 1 + source.Intn(10)
		s := ofBits(size, source.Intn(1<<size)|source.Intn(1<<size)|source.Intn(1<<size))
		l := randomTasks(source, 1+source.Intn(5), 60, 6)
		order, e := rank.Find(l, s)
		if e != api.OK {
			continue
		}
		ordered, _ := rank.Of(l, order)
		first := make([]int, len(l))
		for i := range first {
			first[i] = source.Intn(60)
		}
		done, _, e := play.Play(ordered, s, first, api.PFixed, until)
		if e != api.OK {
			continue
		}
		played++
		if late, _ := play.Lates(ordered, first, done, until); len(late) > 0 {
			t.Errorf("Find(%v, %v) = %v, but late are %v, from %v", l, s, order, late, first)
		}
	}
	if played < 200 {
		t.Errorf("too few were played: %d", played)
	}
}

// No Due is more than its Every, so that the order by Due is good if any is; and, where each Due is its Every, that by
// Every, too.
func TestPlainOrdersAreGoodIfAnyIs(t *testing.T) {
	source := rand.New(rand.NewSource(8))
	for range 1000 {
		size := 1 + source.Intn(10)
		s := ofBits(size, source.Intn(1<<size)|source.Intn(1<<size)|source.Intn(1<<size))
		l := randomTasks(source, 1+source.Intn(6), 60, 6)
		_, e := rank.Find(l, s)
		order, _ := rank.ByDue(l)
		wantGood(t, l, order, s, e == api.OK, api.OK)
		for i := range l {
			l[i].Due = l[i].Every
		}
		_, e = rank.Find(l, s)
		order, _ = rank.ByEvery(l)
		wantGood(t, l, order, s, e == api.OK, api.OK)
	}
}

func TestFindAtTheGreatest(t *testing.T) {
	// As many tasks, spans and steps as there may be: the ones ahead leave little at a time.
	s := api.Set{Size: api.MaxSpans * 5000}
	for i := range api.MaxSpans {
		s.Spans = append(s.Spans, api.Span{From: i * 5000, To: i*5000 + 4999})
	}
	var l []api.Task
	for i := range most {
		every := min(2<<i, far)
		l = append(l, api.Task{Long: 1, Every: every, Due: every})
	}
	order, e := rank.Find(l, s)
	if e == api.OK {
		t.Errorf("Find(%v) = %v: more is needed than there is", l, order)
	}
	l = l[:10]
	order, e = rank.Find(l, s)
	if e != api.OK {
		t.Fatalf("Find(%v) = %v", l, e)
	}
	wantGood(t, l, order, s, true, api.OK)
	ordered, _ := rank.Of(l, order)
	for i := range ordered {
		if _, e := reply.Reply(ordered, i, s); e != api.OK {
			t.Errorf("task %d of %v is late", i, ordered)
		}
	}
}

// Errors

func TestWrongTasksAreToldAheadOfAll(t *testing.T) {
	for err, l := range map[api.Errno][][]api.Task{
		api.ErrForm: {
			{{}}, tasks(0, 4, 3), tasks(4, 4, 3), tasks(1, 4, 0), tasks(1, 4, 5), tasks(1, far+1, 1), tasks(1, 2, 2, -1, 4, 3),
			tasks(math.MaxInt, math.MaxInt, math.MaxInt), make([]api.Task, most),
		},
		api.ErrLarge: {make([]api.Task, most+1), slices.Repeat(tasks(1, 4, 3), most+1), slices.Repeat(tasks(1, 99, 99), 1000)},
	} {
		for _, x := range l {
			plain := make([]int, len(x))
			for i := range plain {
				plain[i] = i
			}
			wantByDue(t, x, nil, err)
			wantByEvery(t, x, nil, err)
			for _, order := range [][]int{nil, {}, {0}, {-1}, {7, 7}, plain, make([]int, 100)} {
				wantOf(t, x, order, nil, err)
				for _, s := range []api.Set{full(), set(3), {}, set(-1), set(9, 5, 10), {Size: 1, Spans: make([]api.Span, 300)}} {
					wantGood(t, x, order, s, false, err)
					wantFind(t, x, s, nil, err)
				}
			}
		}
	}
}

func TestWrongSetsAreToldNext(t *testing.T) {
	for err, l := range map[api.Errno][]api.Set{
		api.ErrArg:   {{}, set(0, 0, 1), set(frame+1, 0, 1), set(-1), set(math.MinInt, 0, 1), set(math.MaxInt)},
		api.ErrLarge: {{Size: frame, Spans: make([]api.Span, api.MaxSpans+1)}},
		api.ErrForm:  {set(9, 1, 2, 2, 3), set(9, 3, 3), set(9, 5, 10), set(9, -1, 2), set(9, 3, 4, 1, 2)},
	} {
		for _, s := range l {
			for _, x := range [][]api.Task{nil, tasks(1, 4, 3), tasks(4, 4, 4, 1, 9, 9), tasks(1, 9, 9, 2, 9, 9)} {
				wantGood(t, x, []int{0, 1}[:len(x)], s, false, err)
				wantFind(t, x, s, nil, err)
			}
		}
	}
}

// With an error there is no list at all.
func TestNoListWithAnError(t *testing.T) {
	wrong := tasks(0, 0, 0)
	a, _ := rank.ByDue(wrong)
	b, _ := rank.ByEvery(wrong)
	c, _ := rank.Of(wrong, []int{0})
	d, _ := rank.Of(tasks(1, 4, 3), []int{1})
	e, _ := rank.Find(wrong, full())
	f, _ := rank.Find(tasks(1, 4, 3), set(-1))
	g, _ := rank.Find(tasks(1, 20, 20, 1, 9, 1, 1, 9, 1), full())
	if a != nil || b != nil || c != nil || d != nil || e != nil || f != nil || g != nil {
		t.Error(a, b, c, d, e, f, g)
	}
}

// P1

func TestAllCallsAnswer(t *testing.T) {
	for _, a := range edges {
		for _, b := range edges {
			for _, c := range edges {
				for _, l := range [][]api.Task{tasks(a, b, c), tasks(1, 2, 2, a, b, c), tasks(1, 4, 3)} {
					rank.ByDue(l)
					rank.ByEvery(l)
					for _, order := range [][]int{nil, {a}, {0}, {a, b}, {1, 0}, {a, b, c}} {
						rank.Of(l, order)
						rank.Good(l, order, set(a, b, c))
						rank.Good(l, order, full())
					}
					rank.Find(l, set(a, b, c))
					rank.Find(l, full())
				}
			}
		}
	}
}

// P2

// handed is a task list, an order and a set with room behind each, and what stood in all of it at first.
type handed struct {
	tasks, tasksWere   []api.Task
	order, orderWas    []int
	spans, spansWere   []api.Span
	size, count, times int
}

func handIn(l []api.Task, order []int, s api.Set) handed {
	h := handed{
		tasks: slices.Concat(l, slices.Repeat(tasks(-7, -8, -9), 2*most)),
		order: slices.Concat(order, slices.Repeat([]int{-6}, 2*most)),
		spans: slices.Concat(s.Spans, slices.Repeat([]api.Span{{From: -8, To: -9}}, 400)),
		size:  s.Size, count: len(l), times: len(s.Spans),
	}
	h.tasksWere, h.orderWas, h.spansWere = slices.Clone(h.tasks), slices.Clone(h.order), slices.Clone(h.spans)
	return h
}

func (h handed) same() bool {
	return slices.Equal(h.tasks, h.tasksWere) && slices.Equal(h.order, h.orderWas) && slices.Equal(h.spans, h.spansWere)
}

// told is what all calls answer.
type told struct {
	due, every, found []int
	of                []api.Task
	good              bool
	errs              [5]api.Errno
}

func (h handed) ask() told {
	l, order, s := h.tasks[:h.count], h.order[:h.count], api.Set{Size: h.size, Spans: h.spans[:h.times]}
	var a told
	a.due, a.errs[0] = rank.ByDue(l)
	a.every, a.errs[1] = rank.ByEvery(l)
	a.of, a.errs[2] = rank.Of(l, order)
	a.good, a.errs[3] = rank.Good(l, order, s)
	a.found, a.errs[4] = rank.Find(l, s)
	return a
}

func (a told) clone() told {
	a.due, a.every, a.found, a.of = slices.Clone(a.due), slices.Clone(a.every), slices.Clone(a.found), slices.Clone(a.of)
	return a
}

func (a told) equal(b told) bool {
	return slices.Equal(a.due, b.due) && slices.Equal(a.every, b.every) && slices.Equal(a.found, b.found) &&
		slices.Equal(a.of, b.of) && a.good == b.good && a.errs == b.errs
}

func TestMemory(t *testing.T) {
	for _, l := range [][]api.Task{nil, tasks(1, 4, 3), tasks(2, 6, 6, 1, 4, 3, 1, 12, 9), tasks(1, 4, 3, 4, 6, 4, 1, 20, 20)} {
		order := make([]int, len(l))
		for i := range order {
			order[i] = len(l) - 1 - i
		}
		h := handIn(l, order, set(12, 0, 5, 6, 11))
		first := h.ask()
		kept := first.clone()
		if !h.same() {
			t.Errorf("what is handed in is changed: %v", l)
		}
		handIn(tasks(1, 5, 5, 1, 7, 2), []int{0, 1}, set(7, 0, 3, 4, 6)).ask()
		second := h.ask()
		if !first.equal(kept) || !second.equal(kept) {
			t.Errorf("something is kept of %v", l)
		}
		fill(first.due, -1)
		fill(first.every, -2)
		fill(first.found, -3)
		fill(first.of, api.Task{Long: -4})
		if !h.same() || !second.equal(kept) || !h.ask().equal(kept) {
			t.Errorf("an answer shares memory: %v", l)
		}
	}
}

// fill writes to all of a list, its spare room included.
func fill[T any](l []T, x T) {
	l = l[:cap(l)]
	for i := range l {
		l[i] = x
	}
}
