package span_test

import (
	"math"
	"math/rand"
	"slices"
	"testing"

	"dutyroster/api"
	"dutyroster/span"
)

const (
	top   = api.MaxNum
	frame = api.MaxFrame
	most  = api.MaxSpans
)

// edges stand on both sides of each bound that the chapter names, and at the ends of an int.
var edges = []int{
	math.MinInt, math.MinInt + 1, -top - 1, -top, -frame, -2, -1, 0, 1, 2, 3, 199, 200, 201,
	frame - 1, frame, frame + 1, top - 1, top, top + 1, math.MaxInt - 1, math.MaxInt,
}

func within(x, low, high int) bool { return low <= x && x <= high }

// pairs reads a list of spans from their bounds, one behind the other.
func pairs(bounds ...int) []api.Span {
	var l []api.Span
	for i := 0; i+1 < len(bounds); i += 2 {
		l = append(l, api.Span{From: bounds[i], To: bounds[i+1]})
	}
	return l
}

func set(size int, bounds ...int) api.Set {
	return api.Set{Size: size, Spans: pairs(bounds...)}
}

// every is n spans, each long times, the first one at first, one every step.
func every(n, first, step, long int) []api.Span {
	l := make([]api.Span, n)
	for i := range l {
		l[i] = api.Span{From: first + i*step, To: first + i*step + long}
	}
	return l
}

func same(a, b api.Set) bool {
	return a.Size == b.Size && slices.Equal(a.Spans, b.Spans)
}

func isZero(s api.Set) bool { return s.Size == 0 && s.Spans == nil }

// marks tells of each time of a round whether it is in one of the spans: a slow twin of a set.
func marks(size int, l []api.Span) []bool {
	m := make([]bool, size)
	for _, x := range l {
		for t := x.From; t < x.To; t++ {
			m[t] = true
		}
	}
	return m
}

// unmark is the one set that has the times of m: a span begins and ends where m changes.
func unmark(m []bool) api.Set {
	s := api.Set{Size: len(m)}
	for t, in := range m {
		if !in {
			continue
		}
		if t == 0 || !m[t-1] {
			s.Spans = append(s.Spans, api.Span{From: t})
		}
		s.Spans[len(s.Spans)-1].To = t + 1
	}
	return s
}

// allSets are all sets of a Size.
func allSets(size int) []api.Set {
	var l []api.Set
	for bits := range 1 << size {
		m := make([]bool, size)
		for t := range m {
			m[t] = bits>>t&1 == 1
		}
		l = append(l, unmark(m))
	}
	return l
}

func wantSet(t *testing.T, what string, got api.Set, e api.Errno, want api.Set, err api.Errno) {
	t.Helper()
	if e != err || err == api.OK && !same(got, want) || err != api.OK && !isZero(got) {
		t.Errorf("%s = %v, %v, want %v, %v", what, got, e, want, err)
	}
}

func wantInt(t *testing.T, what string, got int, e api.Errno, want int, err api.Errno) {
	t.Helper()
	if got != want || e != err {
		t.Errorf("%s = %d, %v, want %d, %v", what, got, e, want, err)
	}
}

// P2.1: Check

func TestCheck(t *testing.T) {
	for _, c := range []struct {
		s   api.Set
		err api.Errno
	}{
		{set(1), api.OK},
		{set(1, 0, 1), api.OK},
		{set(9, 1, 2, 3, 4), api.OK},
		{set(9, 0, 9), api.OK},
		{set(9, 0, 2, 8, 9), api.OK},
		{set(frame, 0, frame), api.OK},
		{api.Set{Size: 3, Spans: []api.Span{}}, api.OK},
		{api.Set{Size: frame, Spans: every(most, 0, 2, 1)}, api.OK},
		{api.Set{Size: frame, Spans: every(most, frame-399, 2, 1)}, api.OK},
		{set(0), api.ErrArg},
		{set(-1, 0, 1), api.ErrArg},
		{set(frame + 1), api.ErrArg},
		{set(math.MaxInt), api.ErrArg},
		{set(math.MinInt), api.ErrArg},
		{api.Set{}, api.ErrArg},
		{api.Set{Size: frame, Spans: every(most+1, 0, 2, 1)}, api.ErrLarge},
		{set(9, 1, 2, 2, 3), api.ErrForm},
		{set(9, 1, 3, 2, 4), api.ErrForm},
		{set(9, 4, 5, 1, 2), api.ErrForm},
		{set(9, 1, 2, 1, 2), api.ErrForm},
		{set(9, 0, 9, 3, 4), api.ErrForm},
		{set(9, 2, 2), api.ErrForm},
		{set(9, 0, 0), api.ErrForm},
		{set(9, 9, 9), api.ErrForm},
		{set(9, 3, 2), api.ErrForm},
		{set(9, -1, 2), api.ErrForm},
		{set(9, 0, 10), api.ErrForm},
		{set(9, 0, 2, 4, 10), api.ErrForm},
		{set(9, 0, 2, 10, 11), api.ErrForm},
		{set(9, 0, 2, 4, 4, 6, 7), api.ErrForm},
		{set(9, 0, 20, 21, 9), api.ErrForm},
		{set(9, math.MinInt, math.MaxInt), api.ErrForm},
		{set(9, 0, math.MaxInt, math.MinInt, 9), api.ErrForm},
		{set(9, -2, -1), api.ErrForm},
	} {
		if e := span.Check(c.s); e != c.err {
			t.Errorf("Check(%v) = %v, want %v", c.s, e, c.err)
		}
	}
}

func TestCheckTellsTheFirstError(t *testing.T) {
	wrong := slices.Repeat(pairs(5, 4), most+1)
	if e := span.Check(api.Set{Size: 0, Spans: wrong}); e != api.ErrArg {
		t.Error("a wrong Size ahead of too many:", e)
	}
	if e := span.Check(api.Set{Size: 9, Spans: wrong}); e != api.ErrLarge {
		t.Error("too many ahead of wrong ones:", e)
	}
	if e := span.Check(api.Set{Size: 0, Spans: wrong[:1]}); e != api.ErrArg {
		t.Error("a wrong Size ahead of wrong ones:", e)
	}
	if e := span.Check(api.Set{Size: 9, Spans: wrong[:most]}); e != api.ErrForm {
		t.Error("as many wrong ones as there may be:", e)
	}
}

// TestCheckTakesOneFormOnly: of all lists of two spans or fewer, those in their one form are as many as there are sets.
func TestCheckTakesOneFormOnly(t *testing.T) {
	const size = 4
	good := []api.Set{set(size)}
	for a := -1; a <= size+1; a++ {
		for b := -1; b <= size+1; b++ {
			if s := set(size, a, b); span.Check(s) == api.OK {
				good = append(good, s)
			}
			for c := -1; c <= size+1; c++ {
				for d := -1; d <= size+1; d++ {
					if s := set(size, a, b, c, d); span.Check(s) == api.OK {
						good = append(good, s)
					}
				}
			}
		}
	}
	all := allSets(size)
	if len(good) != len(all) {
		t.Error(len(good), "are good, of", len(all))
	}
	for _, s := range all {
		if !slices.ContainsFunc(good, func(g api.Set) bool { return same(s, g) }) {
			t.Error(s, "is refused")
		}
	}
}

// P2.1: Of

func TestOf(t *testing.T) {
	for _, c := range []struct {
		size    int
		l, want []api.Span
	}{
		{10, nil, nil},
		{10, []api.Span{}, nil},
		{10, pairs(4, 6, 2, 4), pairs(2, 6)},
		{10, pairs(7, 9, 1, 3, 2, 4, 5, 5), pairs(1, 4, 7, 9)},
		{10, pairs(0, 10, 3, 4), pairs(0, 10)},
		{10, pairs(3, 4, 0, 10), pairs(0, 10)},
		{10, pairs(3, 4, 3, 8, 3, 5), pairs(3, 8)},
		{10, pairs(1, 9, 2, 3, 4, 5), pairs(1, 9)},
		{10, pairs(0, 0, 10, 10, 5, 5), nil},
		{10, pairs(2, 4, 4, 4, 5, 6), pairs(2, 4, 5, 6)},
		{10, pairs(9, 10, 0, 1), pairs(0, 1, 9, 10)},
		{1, pairs(0, 1, 0, 1), pairs(0, 1)},
		{frame, pairs(0, frame), pairs(0, frame)},
		{frame, pairs(frame-1, frame), pairs(frame-1, frame)},
		{frame, every(most, 0, 2, 1), every(most, 0, 2, 1)},
		{frame, every(most, 0, 1, 1), pairs(0, most)},
		{frame, every(most, frame-1, -2, 1), every(most, frame-399, 2, 1)},
		{frame, slices.Repeat(pairs(7, 8), most), pairs(7, 8)},
	} {
		s, e := span.Of(c.size, c.l)
		wantSet(t, "Of", s, e, api.Set{Size: c.size, Spans: c.want}, api.OK)
	}
}

func TestOfWrongOnes(t *testing.T) {
	for _, c := range []struct {
		size int
		l    []api.Span
		err  api.Errno
	}{
		{0, nil, api.ErrArg},
		{-1, nil, api.ErrArg},
		{frame + 1, pairs(0, 1), api.ErrArg},
		{math.MaxInt, nil, api.ErrArg},
		{math.MinInt, nil, api.ErrArg},
		{frame, every(most+1, 0, 2, 1), api.ErrLarge},
		{frame, slices.Repeat(pairs(0, 1), most+1), api.ErrLarge},
		{frame, slices.Repeat(pairs(0, 0), most+1), api.ErrLarge},
		{10, pairs(-1, 3), api.ErrForm},
		{10, pairs(-1, -1), api.ErrForm},
		{10, pairs(4, 3), api.ErrForm},
		{10, pairs(0, 11), api.ErrForm},
		{10, pairs(11, 11), api.ErrForm},
		{10, pairs(10, 11), api.ErrForm},
		{10, pairs(1, 2, 3, 4, 6, 5), api.ErrForm},
		{10, pairs(0, 10, 0, 11), api.ErrForm},
		{10, pairs(0, math.MaxInt), api.ErrForm},
		{10, pairs(math.MinInt, math.MaxInt), api.ErrForm},
		{10, pairs(math.MinInt, 5), api.ErrForm},
		{10, pairs(0, math.MinInt), api.ErrForm},
		{0, slices.Repeat(pairs(5, 4), most+1), api.ErrArg},
		{0, pairs(5, 4), api.ErrArg},
		{10, slices.Repeat(pairs(5, 4), most+1), api.ErrLarge},
		{10, append(slices.Repeat(pairs(0, 1), most-1), api.Span{From: 5, To: 4}), api.ErrForm},
	} {
		s, e := span.Of(c.size, c.l)
		wantSet(t, "Of", s, e, api.Set{}, c.err)
	}
}

func TestOfAllPairsOfSmallSpans(t *testing.T) {
	const size = 4
	for a := -1; a <= size+1; a++ {
		for b := -1; b <= size+1; b++ {
			for c := -1; c <= size+1; c++ {
				for d := -1; d <= size+1; d++ {
					l := pairs(a, b, c, d)
					s, e := span.Of(size, l)
					if within(a, 0, b) && b <= size && within(c, 0, d) && d <= size {
						wantSet(t, "Of", s, e, unmark(marks(size, l)), api.OK)
					} else {
						wantSet(t, "Of", s, e, api.Set{}, api.ErrForm)
					}
				}
			}
		}
	}
}

func randomSpans(source *rand.Rand, n, size, long int) []api.Span {
	l := make([]api.Span, n)
	for i := range l {
		from := source.Intn(size + 1)
		l[i] = api.Span{From: from, To: min(size, from+source.Intn(long))}
	}
	return l
}

func TestOfManySpans(t *testing.T) {
	source := rand.New(rand.NewSource(1))
	for range 2000 {
		size := 1 + source.Intn(2000)
		l := randomSpans(source, source.Intn(most+1), size, 1+source.Intn(12))
		s, e := span.Of(size, l)
		wantSet(t, "Of", s, e, unmark(marks(size, l)), api.OK)
		if e := span.Check(s); e != api.OK {
			t.Errorf("Of answers %v, which Check tells %v of", s, e)
		}
	}
}

// P2.2

func TestSmallSets(t *testing.T) {
	for size := 1; size <= 6; size++ {
		sets := allSets(size)
		for _, a := range sets {
			if e := span.Check(a); e != api.OK {
				t.Errorf("Check(%v) = %v", a, e)
			}
			checkNot(t, a)
			checkTimes(t, a, 3*size+2)
			for _, b := range sets {
				checkTwo(t, a, b)
			}
		}
	}
}

func checkNot(t *testing.T, s api.Set) {
	t.Helper()
	m := marks(s.Size, s.Spans)
	for i := range m {
		m[i] = !m[i]
	}
	got, e := span.Not(s)
	wantSet(t, "Not", got, e, fitting(unmark(m)), errOf(unmark(m)))
}

func checkTwo(t *testing.T, a, b api.Set) {
	t.Helper()
	x, y := marks(a.Size, a.Spans), marks(b.Size, b.Spans)
	both, either := make([]bool, a.Size), make([]bool, a.Size)
	for i := range x {
		both[i] = x[i] && y[i]
		either[i] = x[i] || y[i]
	}
	got, e := span.Both(a, b)
	wantSet(t, "Both", got, e, fitting(unmark(both)), errOf(unmark(both)))
	got, e = span.Either(a, b)
	wantSet(t, "Either", got, e, fitting(unmark(either)), errOf(unmark(either)))
}

// fitting and errOf are what is told of a set that may have more spans than there may be.
func fitting(s api.Set) api.Set {
	if len(s.Spans) > most {
		return api.Set{}
	}
	return s
}

func errOf(s api.Set) api.Errno {
	if len(s.Spans) > most {
		return api.ErrLarge
	}
	return api.OK
}

// checkTimes asks for each time below until, one by one.
func checkTimes(t *testing.T, s api.Set, until int) {
	t.Helper()
	m := marks(s.Size, s.Spans)
	below := make([]int, until+1)
	for i := range until {
		below[i+1] = below[i]
		in := m[i%s.Size]
		if in {
			below[i+1]++
		}
		if got, e := span.Has(s, i); got != in || e != api.OK {
			t.Errorf("Has(%v, %d) = %v, %v", s, i, got, e)
		}
		want, err := slowNext(m, i)
		got, e := span.Next(s, i)
		wantInt(t, "Next", got, e, want, err)
	}
	for from := range below {
		for to := range below {
			got, e := span.Count(s, from, to)
			if from > to {
				wantInt(t, "Count", got, e, 0, api.ErrArg)
			} else {
				wantInt(t, "Count", got, e, below[to]-below[from], api.OK)
			}
		}
	}
}

func slowNext(m []bool, t int) (int, api.Errno) {
	for i := t; i < t+len(m); i++ {
		if m[i%len(m)] {
			return i, api.OK
		}
	}
	return 0, api.ErrNone
}

func TestManySpans(t *testing.T) {
	source := rand.New(rand.NewSource(2))
	for range 1000 {
		size := 1 + source.Intn(3000)
		a, _ := span.Of(size, randomSpans(source, source.Intn(most+1), size, 1+source.Intn(15)))
		b, _ := span.Of(size, randomSpans(source, source.Intn(most+1), size, 1+source.Intn(15)))
		checkNot(t, a)
		checkTwo(t, a, b)
	}
}

func TestHas(t *testing.T) {
	s := set(10, 0, 1, 4, 7, 9, 10)
	for _, c := range []struct {
		t  int
		in bool
	}{
		{0, true}, {1, false}, {3, false}, {4, true}, {6, true}, {7, false}, {9, true}, {10, true}, {11, false},
		{top, true}, {top - 1, true}, {top - 3, false}, // 2^40 leaves 6 by 10
	} {
		if in, e := span.Has(s, c.t); in != c.in || e != api.OK {
			t.Errorf("Has at %d = %v, %v", c.t, in, e)
		}
	}
	for _, at := range edges {
		in, e := span.Has(set(1, 0, 1), at)
		if within(at, 0, top) != in || in != (e == api.OK) || !in && e != api.ErrArg {
			t.Errorf("Has at %d = %v, %v", at, in, e)
		}
	}
}

func TestNot(t *testing.T) {
	for _, c := range []struct{ s, want api.Set }{
		{set(10), set(10, 0, 10)},
		{set(10, 0, 10), set(10)},
		{set(10, 0, 3), set(10, 3, 10)},
		{set(10, 3, 10), set(10, 0, 3)},
		{set(10, 1, 4, 7, 9), set(10, 0, 1, 4, 7, 9, 10)},
		{set(frame), set(frame, 0, frame)},
		{set(1, 0, 1), set(1)},
	} {
		got, e := span.Not(c.s)
		wantSet(t, "Not", got, e, c.want, api.OK)
	}
}

func TestNotOfAsManySpansAsThereMayBe(t *testing.T) {
	for _, c := range []struct {
		size, first, n int
		err            api.Errno
	}{
		{400, 0, 200, api.OK},        // one gap behind each
		{399, 0, 199, api.OK},        // it ends with them
		{400, 1, 200, api.OK},        // one gap ahead of each
		{401, 1, 0, api.ErrLarge},    // one ahead of each, one behind the last
		{frame, 0, 200, api.OK},      // a long one behind the last
		{frame, 1, 0, api.ErrLarge},  // a short one ahead of the first
		{frame, 77, 0, api.ErrLarge}, // in the middle
	} {
		s := api.Set{Size: c.size, Spans: every(most, c.first, 2, 1)}
		got, e := span.Not(s)
		if e != c.err || len(got.Spans) != c.n || e != api.OK && !isZero(got) {
			t.Errorf("Not of 200 in %d, from %d on: %d spans, %v", c.size, c.first, len(got.Spans), e)
		}
		checkNot(t, s)
	}
}

func TestBothAndEither(t *testing.T) {
	for _, c := range []struct{ a, b, both, either api.Set }{
		{set(10), set(10), set(10), set(10)},
		{set(10), set(10, 2, 3), set(10), set(10, 2, 3)},
		{set(10, 0, 10), set(10, 2, 3, 5, 6), set(10, 2, 3, 5, 6), set(10, 0, 10)},
		{set(10, 1, 4, 7, 9), set(10, 3, 8), set(10, 3, 4, 7, 8), set(10, 1, 9)},
		{set(10, 0, 4), set(10, 4, 10), set(10), set(10, 0, 10)},
		{set(10, 4, 6), set(10, 2, 4), set(10), set(10, 2, 6)},
		{set(10, 0, 2, 4, 6), set(10, 2, 4, 6, 8), set(10), set(10, 0, 8)},
		{set(10, 0, 3, 5, 8), set(10, 2, 6), set(10, 2, 3, 5, 6), set(10, 0, 8)},
		{set(10, 1, 2), set(10, 1, 2), set(10, 1, 2), set(10, 1, 2)},
	} {
		for _, turned := range []bool{false, true} {
			a, b := c.a, c.b
			if turned {
				a, b = b, a
			}
			got, e := span.Both(a, b)
			wantSet(t, "Both", got, e, c.both, api.OK)
			got, e = span.Either(a, b)
			wantSet(t, "Either", got, e, c.either, api.OK)
		}
	}
}

func TestBothOfAsManySpansAsThereMayBe(t *testing.T) {
	// Each hole of the one lies in the middle of a span of the other, and makes two of it.
	for _, c := range []struct {
		spans, holes, n int
		err             api.Errno
	}{
		{200, 0, 200, api.OK}, {199, 1, 200, api.OK}, {100, 100, 200, api.OK}, {101, 99, 200, api.OK},
		{200, 1, 0, api.ErrLarge}, {199, 2, 0, api.ErrLarge}, {102, 99, 0, api.ErrLarge}, {200, 199, 0, api.ErrLarge},
	} {
		a := api.Set{Size: 3000, Spans: every(c.spans, 0, 10, 9)}
		b := api.Set{Size: 3000, Spans: withHoles(c.holes)}
		for _, sets := range [][2]api.Set{{a, b}, {b, a}} {
			got, e := span.Both(sets[0], sets[1])
			if e != c.err || len(got.Spans) != c.n || e != api.OK && !isZero(got) {
				t.Errorf("Both of %d spans and %d holes: %d spans, %v", c.spans, c.holes, len(got.Spans), e)
			}
			checkTwo(t, sets[0], sets[1])
		}
	}
}

// withHoles is all of a frame of 3000, without a time in each of the first n tens.
func withHoles(n int) []api.Span {
	var l []api.Span
	from := 0
	for i := range n {
		l = append(l, api.Span{From: from, To: 10*i + 4})
		from = 10*i + 5
	}
	return append(l, api.Span{From: from, To: 3000})
}

func TestEitherOfAsManySpansAsThereMayBe(t *testing.T) {
	full := api.Set{Size: 1000, Spans: every(most, 0, 4, 1)}
	for _, c := range []struct {
		spans []api.Span
		n     int
		err   api.Errno
	}{
		{nil, 200, api.OK},
		{full.Spans, 200, api.OK},
		{every(most, 1, 4, 1), 200, api.OK},
		{every(most, 1, 4, 3), 1, api.OK},
		{every(most, 2, 4, 1), 0, api.ErrLarge},
		{pairs(2, 3), 0, api.ErrLarge},
		{pairs(999, 1000), 0, api.ErrLarge},
		{pairs(2, 3, 5, 8), 200, api.OK},
	} {
		b := api.Set{Size: 1000, Spans: c.spans}
		for _, sets := range [][2]api.Set{{full, b}, {b, full}} {
			got, e := span.Either(sets[0], sets[1])
			if e != c.err || len(got.Spans) != c.n || e != api.OK && !isZero(got) {
				t.Errorf("Either of 200 and %v: %d spans, %v", c.spans, len(got.Spans), e)
			}
			checkTwo(t, sets[0], sets[1])
		}
	}
}

// wrongSets are told by Check, each kind of error once at least.
func wrongSets() map[api.Errno][]api.Set {
	return map[api.Errno][]api.Set{
		api.ErrArg:   {{}, set(0, 0, 1), set(frame+1, 0, 1), set(-1), set(math.MinInt, 0, 1)},
		api.ErrLarge: {{Size: frame, Spans: every(most+1, 0, 2, 1)}, {Size: 1, Spans: every(500, 0, 2, 1)}},
		api.ErrForm:  {set(9, 1, 2, 2, 3), set(9, 3, 3), set(9, 5, 10), set(9, -1, 2), set(9, 3, 4, 1, 2)},
	}
}

func TestWrongSetsAreToldFirst(t *testing.T) {
	for err, l := range wrongSets() {
		for _, s := range l {
			if e := span.Check(s); e != err {
				t.Errorf("Check(%v) = %v, want %v", s, e, err)
			}
			for _, at := range []int{0, -1, top + 1} {
				in, e := span.Has(s, at)
				if in || e != err {
					t.Errorf("Has(%v, %d) = %v, %v, want %v", s, at, in, e, err)
				}
				n, e := span.Next(s, at)
				wantInt(t, "Next", n, e, 0, err)
				n, e = span.Count(s, at, at)
				wantInt(t, "Count", n, e, 0, err)
			}
			got, e := span.Not(s)
			wantSet(t, "Not", got, e, api.Set{}, err)
			for _, good := range []api.Set{set(9, 1, 2), set(4, 0, 4)} {
				checkTwoErrors(t, s, good, err)
				checkTwoErrors(t, good, s, err)
			}
		}
	}
}

func checkTwoErrors(t *testing.T, a, b api.Set, err api.Errno) {
	t.Helper()
	got, e := span.Both(a, b)
	wantSet(t, "Both", got, e, api.Set{}, err)
	got, e = span.Either(a, b)
	wantSet(t, "Either", got, e, api.Set{}, err)
}

func TestTheErrorOfTheFirstSetIsToldFirst(t *testing.T) {
	for err, l := range wrongSets() {
		for _, others := range wrongSets() {
			checkTwoErrors(t, l[0], others[0], err)
		}
	}
}

func TestSetsOfTwoSizes(t *testing.T) {
	checkTwoErrors(t, set(9, 1, 2), set(10, 1, 2), api.ErrArg)
	checkTwoErrors(t, set(10), set(5), api.ErrArg)
	checkTwoErrors(t, set(1, 0, 1), set(frame, 0, frame), api.ErrArg)
	// Their Sizes are told ahead of what has too many spans.
	a := api.Set{Size: 1000, Spans: every(most, 0, 4, 1)}
	b := api.Set{Size: 1001, Spans: every(most, 2, 4, 1)}
	checkTwoErrors(t, a, b, api.ErrArg)
}

// P2.3

func TestCount(t *testing.T) {
	s := set(10, 1, 4, 7, 9)
	for _, c := range [][3]int{
		{0, 10, 5}, {2, 8, 3}, {12, 38, 13}, {5, 5, 0}, {9, 11, 0}, {0, 0, 0}, {1, 2, 1}, {3, 4, 1}, {4, 5, 0},
		{8, 12, 2}, {0, 100, 50}, {10, 10, 0},
		{0, top, 5*(top/10) + 3}, {top, top, 0}, {top - 6, top, 3}, {top - 1, top, 0}, {1, top, 5*(top/10) + 3},
	} {
		n, e := span.Count(s, c[0], c[1])
		wantInt(t, "Count", n, e, c[2], api.OK)
	}
	for _, full := range []api.Set{set(1, 0, 1), set(7, 0, 7), set(frame, 0, frame)} {
		n, e := span.Count(full, 0, top)
		wantInt(t, "Count of all", n, e, top, api.OK)
	}
	n, e := span.Count(set(7), 0, top)
	wantInt(t, "Count of none", n, e, 0, api.OK)
}

func TestCountAtItsBounds(t *testing.T) {
	for _, from := range edges {
		for _, to := range edges {
			n, e := span.Count(set(3, 0, 3), from, to)
			if from < 0 || from > to || to > top {
				wantInt(t, "Count", n, e, 0, api.ErrArg)
			} else {
				wantInt(t, "Count", n, e, to-from, api.OK)
			}
		}
	}
}

func TestNext(t *testing.T) {
	s := set(10, 1, 4, 7, 9)
	for _, c := range [][2]int{
		{0, 1}, {1, 1}, {3, 3}, {4, 7}, {8, 8}, {9, 11}, {10, 11}, {29, 31}, {34, 37},
		{top - 6, top - 5}, {top - 2, top + 1}, {top, top + 1}, // beyond MaxNum, where t itself may not be
	} {
		n, e := span.Next(s, c[0])
		wantInt(t, "Next", n, e, c[1], api.OK)
	}
	n, e := span.Next(set(frame, 0, 1), 1)
	wantInt(t, "Next", n, e, frame, api.OK)
	n, e = span.Next(set(frame, frame-1, frame), frame)
	wantInt(t, "Next", n, e, 2*frame-1, api.OK)
}

func TestNextAtItsBounds(t *testing.T) {
	for _, at := range edges {
		n, e := span.Next(set(1, 0, 1), at)
		none, f := span.Next(set(5), at)
		if within(at, 0, top) {
			wantInt(t, "Next", n, e, at, api.OK)
			wantInt(t, "Next of none", none, f, 0, api.ErrNone)
		} else {
			wantInt(t, "Next", n, e, 0, api.ErrArg)
			wantInt(t, "Next of none", none, f, 0, api.ErrArg)
		}
	}
}

func TestFarTimes(t *testing.T) {
	source := rand.New(rand.NewSource(3))
	for range 300 {
		size := 1 + source.Intn(300)
		s, _ := span.Of(size, randomSpans(source, source.Intn(20), size, 9))
		m := marks(size, s.Spans)
		at := top - 2*size + source.Intn(size)
		want, err := slowNext(m, at)
		got, e := span.Next(s, at)
		wantInt(t, "Next", got, e, want, err)
		n := 0
		for i := at; i < top; i++ {
			if m[i%size] {
				n++
			}
		}
		got, e = span.Count(s, at, top)
		wantInt(t, "Count", got, e, n, api.OK)
		if in, e := span.Has(s, at); in != m[at%size] || e != api.OK {
			t.Errorf("Has(%v, %d) = %v, %v", s, at, in, e)
		}
	}
}

// P1

func TestAllCallsAnswer(t *testing.T) {
	for _, size := range edges {
		for _, from := range edges {
			for _, to := range edges {
				s := set(size, from, to, to, from, from, to)
				one := set(size, from, to)
				span.Of(size, s.Spans)
				for _, x := range []api.Set{s, one} {
					span.Check(x)
					span.Has(x, from)
					span.Not(x)
					span.Both(x, one)
					span.Either(one, x)
					span.Count(x, from, to)
					span.Next(x, to)
				}
			}
		}
	}
}

// P2

// roomy lays a list in front of room that holds something, and answers the list and all of it.
func roomy(l []api.Span) ([]api.Span, []api.Span) {
	room := append(slices.Clone(l), every(2*most+2, -5, 1, 7)...)
	return room[:len(l)], room
}

// fill writes over a list and all room behind it.
func fill(l []api.Span) {
	l = l[:cap(l)]
	for i := range l {
		l[i] = api.Span{From: -8, To: -9}
	}
}

// checkMemory calls with two lists, writes over what is answered and holds the lists unchanged; and the other way round.
func checkMemory(t *testing.T, what string, a, b []api.Span, call func(a, b []api.Span) api.Set) {
	t.Helper()
	x, roomX := roomy(a)
	y, roomY := roomy(b)
	wasX, wasY := slices.Clone(roomX), slices.Clone(roomY)
	got := call(x, y)
	told := slices.Clone(got.Spans)
	again := call(x, y)
	if !slices.Equal(roomX, wasX) || !slices.Equal(roomY, wasY) {
		t.Errorf("%s changes what it is given", what)
	}
	fill(got.Spans)
	if !slices.Equal(roomX, wasX) || !slices.Equal(roomY, wasY) {
		t.Errorf("%s answers memory of what it was given", what)
	}
	fill(roomX)
	fill(roomY)
	if !slices.Equal(again.Spans, told) {
		t.Errorf("%s: %v became %v", what, told, again.Spans)
	}
}

func TestMemory(t *testing.T) {
	const size = 1000
	lists := [][]api.Span{
		nil, pairs(0, size), pairs(1, 4), pairs(1, 4, 7, 9), pairs(0, 3, 8, 10, 900, size),
		every(most, 0, 4, 1), every(most, 1, 4, 1), every(most, 2, 4, 1), pairs(5, 5, 3, 4), pairs(9, 4),
	}
	for _, a := range lists {
		for _, b := range lists {
			checkMemory(t, "Of", a, b, func(x, y []api.Span) api.Set {
				s, _ := span.Of(size, x)
				return s
			})
			checkMemory(t, "Not", a, b, func(x, y []api.Span) api.Set {
				s, _ := span.Not(api.Set{Size: size, Spans: x})
				return s
			})
			checkMemory(t, "Both", a, b, func(x, y []api.Span) api.Set {
				s, _ := span.Both(api.Set{Size: size, Spans: x}, api.Set{Size: size, Spans: y})
				return s
			})
			checkMemory(t, "Either", a, b, func(x, y []api.Span) api.Set {
				s, _ := span.Either(api.Set{Size: size, Spans: x}, api.Set{Size: size, Spans: y})
				return s
			})
			checkMemory(t, "what answers no set", a, b, func(x, y []api.Span) api.Set {
				s := api.Set{Size: size, Spans: x}
				span.Check(s)
				span.Has(s, 7)
				span.Count(s, 3, 2500)
				span.Next(s, 998)
				return api.Set{}
			})
		}
	}
}

func TestOfLeavesTheOrderOfItsListAlone(t *testing.T) {
	l := pairs(7, 9, 1, 3, 2, 4, 5, 5)
	was := slices.Clone(l)
	span.Of(10, l)
	if !slices.Equal(l, was) {
		t.Error(l)
	}
}
