package supply_test

import (
	"math"
	"math/rand"
	"slices"
	"testing"

	"dutyroster/api"
	"dutyroster/span"
	"dutyroster/supply"
)

const (
	top   = api.MaxNum
	half  = api.MaxNum / 2
	frame = api.MaxFrame
	most  = api.MaxSpans
	need  = 1000000
)

// edges stand on both sides of each bound that the chapter names, and at the ends of an int.
var edges = []int{
	math.MinInt, math.MinInt + 1, -top, -half, -frame, -2, -1, 0, 1, 2, 3, 199, 200, 201,
	frame - 1, frame, frame + 1, half - 1, half, half + 1, top - 1, top, top + 1, math.MaxInt - 1, math.MaxInt,
}

func within(x, low, high int) bool { return low <= x && x <= high }

// set reads the spans of a set from their bounds, one behind the other.
func set(size int, bounds ...int) api.Set {
	s := api.Set{Size: size}
	for i := 0; i+1 < len(bounds); i += 2 {
		s.Spans = append(s.Spans, api.Span{From: bounds[i], To: bounds[i+1]})
	}
	return s
}

// every is a set of n spans, each long times, the first one at first, one every step.
func every(size, n, first, step, long int) api.Set {
	s := api.Set{Size: size}
	for i := range n {
		s.Spans = append(s.Spans, api.Span{From: first + i*step, To: first + i*step + long})
	}
	return s
}

// ofBits is the set whose times are the ones of bits.
func ofBits(size, bits int) api.Set {
	var l []api.Span
	for t := range size {
		if bits>>t&1 == 1 {
			l = append(l, api.Span{From: t, To: t + 1})
		}
	}
	s, _ := span.Of(size, l)
	return s
}

// sums tells of each time below until how many times of s are ahead of it, one time after the other: a slow twin.
func sums(s api.Set, until int) []int {
	in := make([]bool, s.Size)
	for _, x := range s.Spans {
		for t := x.From; t < x.To; t++ {
			in[t] = true
		}
	}
	l := make([]int, until+1)
	for t := range until {
		l[t+1] = l[t]
		if in[t%s.Size] {
			l[t+1]++
		}
	}
	return l
}

// slowRange goes through all times of a round to begin at; what comes behind begins as one of them did.
func slowRange(l []int, size, n int) (int, int) {
	low, high := n, 0
	for at := range size {
		low = min(low, l[at+n]-l[at])
		high = max(high, l[at+n]-l[at])
	}
	return low, high
}

func slowFrom(l []int, at, need int) int {
	n := 0
	for l[at+n]-l[at] < need {
		n++
	}
	return n
}

func slowWait(l []int, size, need int) int {
	n := 0
	for {
		if low, _ := slowRange(l, size, n); low >= need {
			return n
		}
		n++
	}
}

func wantInt(t *testing.T, what string, got int, e api.Errno, want int, err api.Errno) {
	t.Helper()
	if got != want || e != err {
		t.Errorf("%s = %d, %v, want %d, %v", what, got, e, want, err)
	}
}

func wantRange(t *testing.T, s api.Set, n, low, high int, err api.Errno) {
	t.Helper()
	a, e := supply.Least(s, n)
	b, f := supply.Most(s, n)
	if a != low || b != high || e != err || f != err {
		t.Errorf("Least, Most(%v, %d) = %d, %v and %d, %v, want %d and %d, %v", s, n, a, e, b, f, low, high, err)
	}
}

func wantWait(t *testing.T, s api.Set, need, want int, err api.Errno) {
	t.Helper()
	if n, e := supply.Wait(s, need); n != want || e != err {
		t.Errorf("Wait(%v, %d) = %d, %v, want %d, %v", s, need, n, e, want, err)
	}
}

func wantFrom(t *testing.T, s api.Set, at, need, want int, err api.Errno) {
	t.Helper()
	if n, e := supply.From(s, at, need); n != want || e != err {
		t.Errorf("From(%v, %d, %d) = %d, %v, want %d, %v", s, at, need, n, e, want, err)
	}
}

// P4.1

func TestLeastAndMost(t *testing.T) {
	for _, c := range []struct {
		s            api.Set
		n, low, high int
	}{
		{set(5, 0, 2), 4, 1, 2},
		{set(5, 0, 2), 3, 0, 2},
		{set(5, 0, 2), 0, 0, 0},
		{set(5, 3, 5), 4, 1, 2},
		{set(5, 3, 5), 8, 2, 4},
		// The end of one round and the beginning of the next one are one span, or one gap.
		{set(10, 0, 2, 8, 10), 4, 0, 4},
		{set(10, 0, 2, 8, 10), 6, 0, 4},
		{set(10, 0, 2, 8, 10), 7, 1, 4},
		{set(10, 4, 6), 8, 0, 2},
		{set(10, 4, 6), 9, 1, 2},
		// The longest gap need not be where most is missing, nor the longest span where most is to be had.
		{set(30, 0, 8, 13, 18, 22, 23, 27, 29), 9, 1, 8},
		{set(30, 0, 8, 13, 18, 22, 23, 27, 29), 12, 3, 10},
		{set(4), 100, 0, 0},
		{set(4, 0, 4), 100, 100, 100},
		{set(1), half, 0, 0},
		{set(1, 0, 1), half, half, half},
		{set(frame), half, 0, 0},
		{set(frame, 0, frame), half, half, half},
		{set(frame, 5, 6), half, half / frame, half/frame + 1},
		{set(frame, 5, 6), frame - 1, 0, 1},
		{set(frame, 5, 6), frame, 1, 1},
		{set(frame, frame-1, frame), frame + 1, 1, 2},
		{set(frame, 0, 1, frame-1, frame), 2, 0, 2},
		{set(2, 1, 2), half, half / 2, half / 2},
		{set(2, 1, 2), half - 1, half/2 - 1, half / 2},
	} {
		wantRange(t, c.s, c.n, c.low, c.high, api.OK)
	}
}

func TestLeastAndMostAtTheirBounds(t *testing.T) {
	for _, n := range edges {
		if within(n, 0, half) {
			wantRange(t, set(3), n, 0, 0, api.OK)
			wantRange(t, set(3, 0, 3), n, n, n, api.OK)
			wantRange(t, set(2, 0, 1), n, n/2, (n+1)/2, api.OK)
		} else {
			wantRange(t, set(3), n, 0, 0, api.ErrArg)
			wantRange(t, set(3, 0, 3), n, 0, 0, api.ErrArg)
			wantRange(t, set(2, 0, 1), n, 0, 0, api.ErrArg)
		}
	}
}

// P4.2

func TestWait(t *testing.T) {
	for _, c := range []struct {
		s          api.Set
		need, want int
	}{
		{set(5, 0, 2), 1, 4},
		{set(5, 0, 2), 2, 5},
		{set(5, 0, 2), 3, 9},
		{set(5, 0, 2), 0, 0},
		{set(5), 0, 0},
		{set(5, 0, 5), 1, 1},
		{set(5, 0, 5), 17, 17},
		{set(10, 0, 2, 8, 10), 1, 7},
		{set(10, 0, 2, 8, 10), 4, 10},
		{set(10, 0, 2, 8, 10), 5, 17},
		{set(30, 0, 8, 13, 18, 22, 23, 27, 29), 1, 6},
		{set(30, 0, 8, 13, 18, 22, 23, 27, 29), 2, 10},
		{set(1, 0, 1), need, need},
		{set(frame, 0, frame), need, need},
		{set(frame, 5, 6), 1, frame},
		// Longer than Least may be asked for, and as long as it can be.
		{set(frame, 5, 6), need, frame * need},
		{set(frame, frame-1, frame), need, frame * need},
		{set(frame, 0, 1), need - 1, frame * (need - 1)},
		{set(frame, 0, 2), need, frame * need / 2},
		{set(frame, 0, 2), need - 1, frame*need/2 - 1},
	} {
		wantWait(t, c.s, c.need, c.want, api.OK)
	}
}

func TestFrom(t *testing.T) {
	for _, c := range []struct {
		s              api.Set
		at, need, want int
	}{
		{set(5, 0, 2), 0, 1, 1},
		{set(5, 0, 2), 0, 2, 2},
		{set(5, 0, 2), 0, 3, 6},
		{set(5, 0, 2), 1, 1, 1},
		{set(5, 0, 2), 1, 2, 5},
		{set(5, 0, 2), 2, 1, 4},
		{set(5, 0, 2), 4, 4, 8},
		{set(5, 0, 2), 5, 1, 1},
		{set(5, 0, 2), 12, 2, 5},
		{set(5, 0, 2), 3, 0, 0},
		{set(5), 3, 0, 0},
		{set(5), frame, 0, 0},
		{set(10, 0, 2, 8, 10), 8, 4, 4},
		{set(10, 0, 2, 8, 10), 9, 4, 10},
		{set(10, 0, 2, 8, 10), 2, 1, 7},
		{set(1, 0, 1), frame, need, need},
		{set(frame, 5, 6), 5, 1, 1},
		{set(frame, 5, 6), 6, 1, frame},
		{set(frame, 5, 6), 6, need, frame * need},
		{set(frame, 5, 6), 0, need, frame*(need-1) + 6},
		{set(frame, frame-1, frame), frame - 1, 1, 1},
		{set(frame, frame-1, frame), frame, need, frame * need},
		{set(frame, 0, frame), frame, need, need},
		{set(7, 3, 4), frame, 1, 3}, // 10^6 leaves 1 by 7
	} {
		wantFrom(t, c.s, c.at, c.need, c.want, api.OK)
	}
}

func TestWaitAndFromAtTheirBounds(t *testing.T) {
	for _, x := range edges {
		if within(x, 0, need) {
			wantWait(t, set(3, 0, 3), x, x, api.OK)
		} else {
			wantWait(t, set(3, 0, 3), x, 0, api.ErrArg)
			wantWait(t, set(3), x, 0, api.ErrArg)
		}
		for _, at := range edges {
			if within(x, 0, need) && within(at, 0, frame) {
				wantFrom(t, set(3, 0, 3), at, x, x, api.OK)
			} else {
				wantFrom(t, set(3, 0, 3), at, x, 0, api.ErrArg)
				wantFrom(t, set(3), at, x, 0, api.ErrArg)
			}
		}
	}
}

func TestNothingToWaitFor(t *testing.T) {
	for _, s := range []api.Set{set(1), set(4), set(frame), {Size: 4, Spans: []api.Span{}}} {
		wantWait(t, s, 0, 0, api.OK)
		wantFrom(t, s, frame, 0, 0, api.OK)
		for _, x := range []int{1, 2, need} {
			wantWait(t, s, x, 0, api.ErrNone)
			wantFrom(t, s, 0, x, 0, api.ErrNone)
			wantFrom(t, s, frame, x, 0, api.ErrNone)
		}
	}
}

// Both: against the slow twin, and against each other

func TestAllSmallSets(t *testing.T) {
	for size := 1; size <= 8; size++ {
		for bits := range 1 << size {
			s := ofBits(size, bits)
			l := sums(s, 40*size)
			for n := range 3*size + 2 {
				low, high := slowRange(l, size, n)
				wantRange(t, s, n, low, high, api.OK)
			}
			if bits != 0 {
				checkWaits(t, s, l, 12, 2*size+2)
			}
		}
	}
}

// checkWaits holds all needs and beginnings below the given ones.
func checkWaits(t *testing.T, s api.Set, l []int, needs, ats int) {
	t.Helper()
	for x := range needs {
		if x*s.Size+s.Size+ats >= len(l) {
			return
		}
		wantWait(t, s, x, slowWait(l, s.Size, x), api.OK)
		for at := range ats {
			wantFrom(t, s, at, x, slowFrom(l, at, x), api.OK)
		}
	}
}

func randomSet(source *rand.Rand, size, n, long int) api.Set {
	l := make([]api.Span, n)
	for i := range l {
		from := source.Intn(size)
		l[i] = api.Span{From: from, To: min(size, from+source.Intn(long+1))}
	}
	s, _ := span.Of(size, l)
	return s
}

func TestManySpans(t *testing.T) {
	source := rand.New(rand.NewSource(4))
	for range 60 {
		size := 1 + source.Intn(2000)
		s := randomSet(source, size, source.Intn(most+1), 1+source.Intn(12))
		l := sums(s, 6*size)
		for range 20 {
			n := source.Intn(5 * size)
			low, high := slowRange(l, size, n)
			wantRange(t, s, n, low, high, api.OK)
			at := source.Intn(2 * size)
			if has := l[5*size] - l[at]; has > 0 {
				x := 1 + source.Intn(has)
				wantFrom(t, s, at, x, slowFrom(l, at, x), api.OK)
			}
		}
	}
}

func TestAsManySpansAsThereMayBe(t *testing.T) {
	for _, s := range []api.Set{
		every(400, most, 0, 2, 1), every(400, most, 1, 2, 1), every(1000, most, 0, 5, 2), every(1000, most, 2, 5, 3),
		every(900, most, 3, 4, 3),
	} {
		l := sums(s, 5*s.Size)
		for n := 0; n < 3*s.Size; n += 7 {
			low, high := slowRange(l, s.Size, n)
			wantRange(t, s, n, low, high, api.OK)
		}
		for x := 1; x < l[s.Size]; x += 31 {
			wantWait(t, s, x, slowWait(l, s.Size, x), api.OK)
			wantFrom(t, s, x, x, slowFrom(l, x, x), api.OK)
		}
	}
}

// Whole rounds add what is in one of them, however many there are.
func TestManyRounds(t *testing.T) {
	source := rand.New(rand.NewSource(5))
	for range 200 {
		size := 1 + source.Intn(300)
		s := randomSet(source, size, source.Intn(20), 9)
		l := sums(s, 4*size)
		n := half - source.Intn(size)
		rounds := n / size
		low, high := slowRange(l, size, n%size)
		wantRange(t, s, n, rounds*l[size]+low, rounds*l[size]+high, api.OK)
		if l[size] == 0 {
			continue
		}
		x := need - source.Intn(l[size])
		rounds = (x - 1) / l[size]
		rest := x - rounds*l[size]
		at := frame - source.Intn(size)
		wantWait(t, s, x, rounds*size+slowWait(l, size, rest), api.OK)
		wantFrom(t, s, at, x, rounds*size+slowFrom(l, at%size, rest), api.OK)
	}
}

// Wait is the least n of which Least is enough, and the longest From of all.
func TestWaitIsWhatLeastAndFromTell(t *testing.T) {
	source := rand.New(rand.NewSource(6))
	for range 100 {
		size := 1 + source.Intn(200)
		s := randomSet(source, size, 1+source.Intn(30), 6)
		x := 1 + source.Intn(300)
		n, e := supply.Wait(s, x)
		if len(s.Spans) == 0 {
			wantInt(t, "Wait of none", n, e, 0, api.ErrNone)
			continue
		}
		enough, _ := supply.Least(s, n)
		less, _ := supply.Least(s, n-1)
		longest := 0
		for at := range size {
			m, _ := supply.From(s, at, x)
			longest = max(longest, m)
		}
		if e != api.OK || enough < x || less >= x || longest != n {
			t.Errorf("Wait(%v, %d) = %d, %v: Least tells %d, and %d of one less; From %d", s, x, n, e, enough, less, longest)
		}
	}
}

func TestWrongSetsAreToldFirst(t *testing.T) {
	for err, l := range map[api.Errno][]api.Set{
		api.ErrArg:   {{}, set(0, 0, 1), set(frame+1, 0, 1), set(-1), set(math.MinInt, 0, 1)},
		api.ErrLarge: {every(frame, most+1, 0, 2, 1), every(1, 500, 0, 2, 1)},
		api.ErrForm:  {set(9, 1, 2, 2, 3), set(9, 3, 3), set(9, 5, 10), set(9, -1, 2), set(9, 3, 4, 1, 2)},
	} {
		for _, s := range l {
			for _, x := range []int{0, 1, -1, top + 1} {
				wantRange(t, s, x, 0, 0, err)
				wantWait(t, s, x, 0, err)
				wantFrom(t, s, x, 0, 0, err)
				wantFrom(t, s, 0, x, 0, err)
			}
		}
	}
}

// P1

func TestAllCallsAnswer(t *testing.T) {
	for _, size := range edges {
		for _, a := range edges {
			for _, b := range edges {
				for _, s := range []api.Set{set(size, a, b), set(size, a, b, b, a), set(size, 0, 1)} {
					supply.Least(s, a)
					supply.Most(s, b)
					supply.Wait(s, a)
					supply.From(s, a, b)
				}
			}
		}
	}
}

// P2

func TestMemory(t *testing.T) {
	for _, s := range []api.Set{set(9), set(9, 0, 9), set(9, 1, 2, 4, 7), every(400, most, 0, 2, 1), set(9, 4, 4)} {
		room := slices.Concat(s.Spans, slices.Repeat([]api.Span{{From: -8, To: -9}}, 2*most))
		was := slices.Clone(room)
		x := api.Set{Size: s.Size, Spans: room[:len(s.Spans)]}
		first := answers(x)
		if !slices.Equal(room, was) {
			t.Errorf("what is handed in is changed: %v", s)
		}
		answers(set(7, 0, 3, 4, 6))
		if !slices.Equal(answers(x), first) {
			t.Errorf("something is kept of %v", s)
		}
	}
}

func answers(s api.Set) []int {
	a, _ := supply.Least(s, 13)
	b, _ := supply.Most(s, 13)
	c, _ := supply.Wait(s, 13)
	d, _ := supply.From(s, 13, 13)
	return []int{a, b, c, d}
}
