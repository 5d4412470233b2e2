package table_test

import (
	"math"
	"math/rand"
	"slices"
	"testing"

	"dutyroster/api"
	"dutyroster/span"
	"dutyroster/table"
)

const (
	top      = api.MaxNum
	frame    = api.MaxFrame
	most     = api.MaxSpans
	maxTurns = 400
)

// edges stand on both sides of each bound that the chapter names, and at the ends of an int.
var edges = []int{
	math.MinInt, math.MinInt + 1, -top, -frame, -2, -1, 0, 1, 2, 3, 14, 15, 16, 199, 200, 201,
	frame - 1, frame, frame + 1, top - 1, top, top + 1, math.MaxInt - 1, math.MaxInt,
}

func within(x, low, high int) bool { return low <= x && x <= high }

// windows reads a list of windows from From, Long and Owner, one behind the other.
func windows(numbers ...int) []api.Window {
	var l []api.Window
	for i := 0; i+2 < len(numbers); i += 3 {
		l = append(l, api.Window{From: numbers[i], Long: numbers[i+1], Owner: numbers[i+2]})
	}
	return l
}

func of(frame int, numbers ...int) api.Table {
	return api.Table{Frame: frame, Windows: windows(numbers...)}
}

// wants reads a list of wants from Owner, From, Long and Every, one behind the other.
func wants(numbers ...int) []api.Want {
	var l []api.Want
	for i := 0; i+3 < len(numbers); i += 4 {
		l = append(l, api.Want{Owner: numbers[i], From: numbers[i+1], Long: numbers[i+2], Every: numbers[i+3]})
	}
	return l
}

// every is n windows, each long times, the first one at first, one every step, whose owners are all in turn.
func every(n, first, step, long, owners int) []api.Window {
	l := make([]api.Window, n)
	for i := range l {
		l[i] = api.Window{From: first + i*step, Long: long, Owner: i % owners}
	}
	return l
}

func same(a, b api.Table) bool {
	return a.Frame == b.Frame && slices.Equal(a.Windows, b.Windows)
}

func isZero(t api.Table) bool { return t.Frame == 0 && t.Windows == nil }

// marks tells of each time of a frame whose it is: a slow twin of a table.
func marks(x api.Table) []int {
	m := slices.Repeat([]int{-1}, x.Frame)
	for _, w := range x.Windows {
		for t := w.From; t < w.From+w.Long; t++ {
			m[t] = w.Owner
		}
	}
	return m
}

// slowTimes begins and ends a span where m changes to and from the owner.
func slowTimes(m []int, owner int) api.Set {
	s := api.Set{Size: len(m)}
	for t, who := range m {
		if who != owner {
			continue
		}
		if t == 0 || m[t-1] != owner {
			s.Spans = append(s.Spans, api.Span{From: t})
		}
		s.Spans[len(s.Spans)-1].To = t + 1
	}
	return s
}

// slowTurns goes from time to time.
func slowTurns(m []int, from, to int) ([]api.Window, api.Errno) {
	var l []api.Window
	for t := from; t < to; t++ {
		who := m[t%len(m)]
		if len(l) == 0 || l[len(l)-1].Owner != who {
			l = append(l, api.Window{From: t, Owner: who})
		}
		l[len(l)-1].Long++
	}
	if len(l) > maxTurns {
		return nil, api.ErrLarge
	}
	return l, api.OK
}

func wantOwner(t *testing.T, x api.Table, at, want int, err api.Errno) {
	t.Helper()
	if got, e := table.Owner(x, at); got != want || e != err {
		t.Errorf("Owner(%v, %d) = %d, %v, want %d, %v", x, at, got, e, want, err)
	}
}

func wantTimes(t *testing.T, x api.Table, owner int, want api.Set, err api.Errno) {
	t.Helper()
	got, e := table.Times(x, owner)
	right := got.Size == want.Size && slices.Equal(got.Spans, want.Spans)
	if e != err || !right || e != api.OK && got.Spans != nil {
		t.Errorf("Times(%v, %d) = %v, %v, want %v, %v", x, owner, got, e, want, err)
	}
}

func wantMade(t *testing.T, frame int, l []api.Want, want api.Table, err api.Errno) {
	t.Helper()
	got, e := table.Make(frame, l)
	if e != err || e == api.OK && !same(got, want) || e != api.OK && !isZero(got) {
		t.Errorf("Make(%d, %v) = %v, %v, want %v, %v", frame, l, got, e, want, err)
	}
}

func wantTurns(t *testing.T, x api.Table, from, to int, want []api.Window, err api.Errno) {
	t.Helper()
	got, e := table.Turns(x, from, to)
	if e != err || !slices.Equal(got, want) || e != api.OK && got != nil {
		t.Errorf("Turns(%v, %d, %d) = %v, %v, want %v, %v", x, from, to, got, e, want, err)
	}
}

// P3.1

func TestCheck(t *testing.T) {
	for _, c := range []struct {
		x   api.Table
		err api.Errno
	}{
		{of(1), api.OK},
		{of(frame), api.OK},
		{api.Table{Frame: 3, Windows: []api.Window{}}, api.OK},
		{of(1, 0, 1, 0), api.OK},
		{of(9, 0, 9, 15), api.OK},
		{of(9, 3, 3, 0, 6, 1, 1), api.OK},
		{of(9, 3, 3, 1, 6, 1, 1), api.OK}, // side by side, and of one owner
		{of(9, 0, 1, 1, 8, 1, 1), api.OK},
		{of(frame, 0, frame, 3), api.OK},
		{of(frame, frame-1, 1, 3), api.OK},
		{api.Table{Frame: most, Windows: every(most, 0, 1, 1, 16)}, api.OK},
		{api.Table{Frame: frame, Windows: every(most, frame-400, 2, 2, 1)}, api.OK},
		{api.Table{}, api.ErrArg},
		{of(0), api.ErrArg},
		{of(-1, 0, 1, 0), api.ErrArg},
		{of(frame+1, 0, 1, 0), api.ErrArg},
		{of(math.MaxInt), api.ErrArg},
		{of(math.MinInt), api.ErrArg},
		{api.Table{Frame: frame, Windows: every(most+1, 0, 2, 1, 1)}, api.ErrLarge},
		{of(9, 1, 2, -1), api.ErrForm},
		{of(9, 1, 2, 16), api.ErrForm},
		{of(9, 1, 2, math.MinInt), api.ErrForm},
		{of(9, 1, 2, math.MaxInt), api.ErrForm},
		{of(9, 1, 0, 0), api.ErrForm},
		{of(9, 9, 0, 0), api.ErrForm},
		{of(9, 1, -1, 0), api.ErrForm},
		{of(9, -1, 1, 0), api.ErrForm},
		{of(9, -1, 3, 0), api.ErrForm},
		{of(9, 0, 10, 0), api.ErrForm},
		{of(9, 5, 5, 0), api.ErrForm},
		{of(9, 9, 1, 0), api.ErrForm},
		{of(9, 10, 1, 0), api.ErrForm},
		{of(9, 3, 3, 0, 5, 1, 0), api.ErrForm},
		{of(9, 3, 3, 0, 3, 3, 0), api.ErrForm},
		{of(9, 5, 1, 0, 3, 1, 0), api.ErrForm},
		{of(9, 5, 1, 0, 0, 5, 0), api.ErrForm},
		{of(9, 0, 2, 0, 2, 0, 0, 4, 1, 0), api.ErrForm},
		{of(9, 0, 5, 0, 5, 1, 0, 4, 1, 0), api.ErrForm},
		{of(9, 0, 2, 0, 2, 2, 16), api.ErrForm},
		{of(9, 0, 2, 0, 2, 8, 0), api.ErrForm},
		{of(9, 1, math.MaxInt, 0), api.ErrForm},
		{of(9, math.MaxInt, 1, 0), api.ErrForm},
		{of(9, math.MaxInt, math.MaxInt, 0), api.ErrForm},
		{of(9, math.MinInt, math.MaxInt, 0), api.ErrForm},
		{of(9, math.MinInt, math.MinInt, 0), api.ErrForm},
		{of(9, 2, math.MaxInt, 0, 3, 1, 0), api.ErrForm},
	} {
		if e := table.Check(c.x); e != c.err {
			t.Errorf("Check(%v) = %v, want %v", c.x, e, c.err)
		}
	}
}

func TestCheckTellsTheFirstError(t *testing.T) {
	wrong := slices.Repeat(windows(5, 0, 16), most+1)
	if e := table.Check(api.Table{Frame: 0, Windows: wrong}); e != api.ErrArg {
		t.Error("a wrong Frame ahead of too many:", e)
	}
	if e := table.Check(api.Table{Frame: 9, Windows: wrong}); e != api.ErrLarge {
		t.Error("too many ahead of wrong ones:", e)
	}
	if e := table.Check(api.Table{Frame: 0, Windows: wrong[:1]}); e != api.ErrArg {
		t.Error("a wrong Frame ahead of wrong ones:", e)
	}
	if e := table.Check(api.Table{Frame: 9, Windows: wrong[:most]}); e != api.ErrForm {
		t.Error("as many wrong ones as there may be:", e)
	}
}

// smallWindows are all windows about a frame, right ones and wrong ones.
func smallWindows(frame int) []api.Window {
	var l []api.Window
	for from := -1; from <= frame+1; from++ {
		for long := -1; long <= frame+1; long++ {
			for _, owner := range []int{-1, 0, 15, 16} {
				l = append(l, api.Window{From: from, Long: long, Owner: owner})
			}
		}
	}
	return l
}

func rightAlone(frame int, w api.Window) bool {
	return within(w.Owner, 0, 15) && w.Long >= 1 && w.From >= 0 && w.From+w.Long <= frame
}

func TestCheckOfAllSmallTables(t *testing.T) {
	const size = 3
	all := smallWindows(size)
	for _, a := range all {
		checkCheck(t, rightAlone(size, a), size, a)
		for _, b := range all {
			right := rightAlone(size, a) && rightAlone(size, b) && a.From+a.Long <= b.From
			checkCheck(t, right, size, a, b)
		}
	}
}

func checkCheck(t *testing.T, right bool, frame int, l ...api.Window) {
	t.Helper()
	want := api.ErrForm
	if right {
		want = api.OK
	}
	if e := table.Check(api.Table{Frame: frame, Windows: l}); e != want {
		t.Errorf("Check(%d, %v) = %v, want %v", frame, l, e, want)
	}
}

// wrongTables are told by Check, each kind of error once at least.
func wrongTables() map[api.Errno][]api.Table {
	return map[api.Errno][]api.Table{
		api.ErrArg:   {{}, of(0, 0, 1, 0), of(frame+1, 0, 1, 0), of(-1), of(math.MinInt, 0, 1, 0)},
		api.ErrLarge: {{Frame: frame, Windows: every(most+1, 0, 2, 1, 2)}, {Frame: 1, Windows: every(500, 0, 2, 1, 2)}},
		api.ErrForm: {
			of(9, 3, 3, 0, 5, 1, 0), of(9, 1, 1, 16), of(9, 1, 1, -1), of(9, 1, 0, 0), of(9, -1, 2, 0),
			of(9, 5, 5, 0), of(9, 5, 1, 0, 3, 1, 0),
		},
	}
}

func TestWrongTablesAreToldFirst(t *testing.T) {
	for err, l := range wrongTables() {
		for _, x := range l {
			if e := table.Check(x); e != err {
				t.Errorf("Check(%v) = %v, want %v", x, e, err)
			}
			for _, n := range []int{0, 1, -1, 16, top + 1} {
				wantOwner(t, x, n, 0, err)
				wantTimes(t, x, n, api.Set{}, err)
				wantTurns(t, x, n, n, nil, err)
				wantTurns(t, x, 0, n, nil, err)
			}
		}
	}
}

// P3.2: Owner

func TestOwner(t *testing.T) {
	x := of(10, 0, 1, 3, 1, 2, 0, 5, 3, 15)
	for at, want := range []int{3, 0, 0, -1, -1, 15, 15, 15, -1, -1, 3, 0, 0, -1} {
		wantOwner(t, x, at, want, api.OK)
	}
	// 2^40 leaves 6 by 10.
	wantOwner(t, x, top, 15, api.OK)
	wantOwner(t, x, top-2, -1, api.OK)
	wantOwner(t, x, top-6, 3, api.OK)
	wantOwner(t, of(frame), top, -1, api.OK)
	wantOwner(t, of(frame, frame-1, 1, 7), frame-1, 7, api.OK)
	wantOwner(t, of(frame, frame-1, 1, 7), frame, -1, api.OK)
	wantOwner(t, of(frame, frame-1, 1, 7), 2*frame-1, 7, api.OK)
}

func TestOwnerAtItsBounds(t *testing.T) {
	for _, at := range edges {
		if within(at, 0, top) {
			wantOwner(t, of(1, 0, 1, 4), at, 4, api.OK)
			wantOwner(t, of(1), at, -1, api.OK)
		} else {
			wantOwner(t, of(1, 0, 1, 4), at, 0, api.ErrArg)
			wantOwner(t, of(1), at, 0, api.ErrArg)
		}
	}
}

// P3.2: Times

func TestTimes(t *testing.T) {
	x := of(10, 0, 1, 3, 1, 2, 0, 3, 2, 0, 5, 3, 15, 9, 1, 3)
	for owner, want := range map[int][]api.Span{
		0:  {{From: 1, To: 5}}, // two windows side by side are one span
		3:  {{From: 0, To: 1}, {From: 9, To: 10}},
		15: {{From: 5, To: 8}},
		7:  nil,
	} {
		wantTimes(t, x, owner, api.Set{Size: 10, Spans: want}, api.OK)
	}
	wantTimes(t, of(frame), 0, api.Set{Size: frame}, api.OK)
	wantTimes(t, of(frame, 0, frame, 2), 2, api.Set{Size: frame, Spans: []api.Span{{From: 0, To: frame}}}, api.OK)
	row := api.Table{Frame: most, Windows: every(most, 0, 1, 1, 1)}
	wantTimes(t, row, 0, api.Set{Size: most, Spans: []api.Span{{From: 0, To: most}}}, api.OK)
	apart := api.Table{Frame: frame, Windows: every(most, 0, 2, 1, 1)}
	if s, e := table.Times(apart, 0); e != api.OK || len(s.Spans) != most {
		t.Error(len(s.Spans), e)
	}
}

func TestTimesAtItsBounds(t *testing.T) {
	for _, owner := range edges {
		if within(owner, 0, 15) {
			wantTimes(t, of(4), owner, api.Set{Size: 4}, api.OK)
		} else {
			wantTimes(t, of(4), owner, api.Set{}, api.ErrArg)
			wantTimes(t, of(4, 0, 4, 0), owner, api.Set{}, api.ErrArg)
		}
	}
}

// P3.3

func TestMake(t *testing.T) {
	for _, c := range []struct {
		frame int
		l     []api.Want
		want  []api.Window
	}{
		{20, nil, nil},
		{20, []api.Want{}, nil},
		{20, wants(0, 0, 2, 5), windows(0, 2, 0, 5, 2, 0, 10, 2, 0, 15, 2, 0)},
		{20, wants(0, 3, 2, 5), windows(3, 2, 0, 8, 2, 0, 13, 2, 0, 18, 2, 0)},
		{6, wants(15, 5, 1, 6), windows(5, 1, 15)},
		{6, wants(15, 0, 6, 6), windows(0, 6, 15)},
		{4, wants(1, 0, 1, 1), windows(0, 1, 1, 1, 1, 1, 2, 1, 1, 3, 1, 1)},
		{6, wants(1, 0, 3, 3), windows(0, 3, 1, 3, 3, 1)},
		{6, wants(2, 3, 3, 6, 1, 0, 3, 6), windows(0, 3, 1, 3, 3, 2)},
		{12, wants(0, 1, 1, 4, 1, 2, 1, 6), windows(1, 1, 0, 2, 1, 1, 5, 1, 0, 8, 1, 1, 9, 1, 0)},
		{4, wants(3, 0, 1, 2, 3, 1, 1, 2), windows(0, 1, 3, 1, 1, 3, 2, 1, 3, 3, 1, 3)},
		{1, wants(0, 0, 1, 1), windows(0, 1, 0)},
		{frame, wants(0, 0, frame, frame), windows(0, frame, 0)},
		{frame, wants(4, frame-1, 1, frame), windows(frame-1, 1, 4)},
		{frame, wants(4, 4999, 1, 5000), replaceOwner(every(most, 4999, 5000, 1, 1), 4)},
		{most, wants(4, 0, 1, 1), replaceOwner(every(most, 0, 1, 1, 1), 4)},
		{most, wants(4, 0, 1, 2, 4, 1, 1, 2), replaceOwner(every(most, 0, 1, 1, 1), 4)},
		{2 * most, singles(most, 2, 2*most), every(most, 0, 2, 1, 16)},
	} {
		wantMade(t, c.frame, c.l, api.Table{Frame: c.frame, Windows: c.want}, api.OK)
	}
}

func replaceOwner(l []api.Window, owner int) []api.Window {
	for i := range l {
		l[i].Owner = owner
	}
	return l
}

// singles are n wants of one window each, step apart, the last one first.
func singles(n, step, frame int) []api.Want {
	l := make([]api.Want, n)
	for i := range l {
		l[n-1-i] = api.Want{Owner: i % 16, From: i * step, Long: 1, Every: frame}
	}
	return l
}

func TestMakeOfWrongOnes(t *testing.T) {
	for _, c := range []struct {
		frame int
		l     []api.Want
		err   api.Errno
	}{
		{0, nil, api.ErrArg},
		{-1, nil, api.ErrArg},
		{frame + 1, nil, api.ErrArg},
		{frame + 1, wants(0, 0, 1, 1), api.ErrArg},
		{math.MaxInt, nil, api.ErrArg},
		{math.MinInt, wants(0, 0, 1, 1), api.ErrArg},
		{frame, singles(most+1, 1, frame), api.ErrLarge},
		{20, wants(-1, 0, 1, 5), api.ErrForm},
		{20, wants(16, 0, 1, 5), api.ErrForm},
		{20, wants(0, 0, 0, 5), api.ErrForm},
		{20, wants(0, 0, -1, 5), api.ErrForm},
		{20, wants(0, 0, 6, 5), api.ErrForm},
		{20, wants(0, -1, 1, 5), api.ErrForm},
		{20, wants(0, 5, 1, 5), api.ErrForm},
		{20, wants(0, 4, 2, 5), api.ErrForm},
		{20, wants(0, 1, 5, 5), api.ErrForm},
		{20, wants(0, 0, 1, 6), api.ErrForm},
		{20, wants(0, 0, 1, 19), api.ErrForm},
		{20, wants(0, 0, 1, 21), api.ErrForm},
		{20, wants(0, 0, 1, 40), api.ErrForm},
		{20, wants(0, 0, 1, 0), api.ErrForm},
		{20, wants(0, 0, 0, 0), api.ErrForm},
		{20, wants(0, 0, 1, -5), api.ErrForm},
		{20, wants(0, 0, -5, -5), api.ErrForm},
		{20, wants(0, 0, 1, math.MinInt), api.ErrForm},
		{20, wants(0, 0, 1, math.MaxInt), api.ErrForm},
		{20, wants(0, math.MaxInt, math.MaxInt, 5), api.ErrForm},
		{20, wants(0, math.MinInt, math.MaxInt, 5), api.ErrForm},
		{20, wants(0, 0, math.MinInt, 5), api.ErrForm},
		{20, wants(math.MinInt, 0, 1, 5), api.ErrForm},
		{20, wants(0, 0, 1, 5, 1, 1, 1, 7), api.ErrForm},
		{201, wants(0, 0, 1, 1), api.ErrLarge},
		{402, wants(0, 0, 1, 2), api.ErrLarge},
		{frame, wants(0, 0, 1, 1), api.ErrLarge},
		{400, wants(0, 0, 1, 4, 1, 1, 1, 4, 2, 2, 1, 400), api.ErrLarge},
		{20, wants(2, 6, 3, 20, 1, 1, 2, 5), api.ErrTwice},
		{20, wants(0, 0, 2, 5, 0, 0, 2, 5), api.ErrTwice},
		{20, wants(0, 0, 2, 5, 1, 1, 2, 5), api.ErrTwice},
		{20, wants(0, 0, 20, 20, 1, 7, 1, 20), api.ErrTwice},
		{20, wants(1, 7, 1, 20, 0, 0, 20, 20), api.ErrTwice},
		{6, wants(0, 0, 1, 2, 1, 0, 1, 3), api.ErrTwice},
		{6, wants(0, 1, 1, 2, 1, 0, 1, 3), api.ErrTwice}, // first at 3
		{20, wants(0, 0, 10, 20, 1, 2, 1, 20, 2, 4, 1, 20), api.ErrTwice},
	} {
		wantMade(t, c.frame, c.l, api.Table{}, c.err)
	}
}

func TestMakeTellsTheFirstError(t *testing.T) {
	wrong := slices.Repeat(wants(16, 0, 1, 7), most+1)
	wantMade(t, 0, wrong, api.Table{}, api.ErrArg)
	wantMade(t, 0, wrong[:1], api.Table{}, api.ErrArg)
	wantMade(t, 20, wrong, api.Table{}, api.ErrLarge)
	wantMade(t, 20, wrong[:most], api.Table{}, api.ErrForm)
	// A wrong want is told ahead of too many windows, and of two at one time, wherever it stands.
	wantMade(t, 402, wants(0, 0, 1, 2, 16, 0, 1, 2), api.Table{}, api.ErrForm)
	wantMade(t, 402, wants(16, 0, 1, 2, 0, 0, 1, 2), api.Table{}, api.ErrForm)
	wantMade(t, 20, wants(0, 0, 1, 5, 0, 0, 1, 5, 0, 0, 1, 6), api.Table{}, api.ErrForm)
	// Too many windows are told ahead of two at one time.
	wantMade(t, 400, wants(0, 0, 1, 4, 0, 0, 1, 4, 0, 0, 1, 400), api.Table{}, api.ErrLarge)
	wantMade(t, 400, wants(0, 0, 1, 4, 0, 0, 1, 4), api.Table{}, api.ErrTwice)
}

// slowMake lays window by window into a frame that is right, and of few times.
func slowMake(frame int, l []api.Want) (api.Table, api.Errno) {
	windowAt, covered := map[int]api.Window{}, map[int]int{}
	for _, x := range l {
		for k := range frame / x.Every {
			w := api.Window{From: k*x.Every + x.From, Long: x.Long, Owner: x.Owner}
			windowAt[w.From] = w
			for t := w.From; t < w.From+w.Long; t++ {
				covered[t]++
			}
		}
	}
	made := api.Table{Frame: frame}
	for t := range frame {
		if covered[t] > 1 {
			return api.Table{}, api.ErrTwice
		}
		if w, ok := windowAt[t]; ok {
			made.Windows = append(made.Windows, w)
		}
	}
	return made, api.OK
}

func rightWant(frame int, x api.Want) bool {
	return within(x.Owner, 0, 15) && within(x.Every, 1, frame) && frame%x.Every == 0 &&
		within(x.Long, 1, x.Every) && x.From >= 0 && x.From+x.Long <= x.Every
}

func TestMakeOfAllSmallWants(t *testing.T) {
	const size = 6
	var right []api.Want
	for every := -1; every <= size+1; every++ {
		for long := -1; long <= size+1; long++ {
			for from := -1; from <= size+1; from++ {
				for _, owner := range []int{-1, 0, 15, 16} {
					x := api.Want{Owner: owner, From: from, Long: long, Every: every}
					if rightWant(size, x) {
						right = append(right, x)
						continue
					}
					wantMade(t, size, []api.Want{x}, api.Table{}, api.ErrForm)
				}
			}
		}
	}
	for _, a := range right {
		want, err := slowMake(size, []api.Want{a})
		wantMade(t, size, []api.Want{a}, want, err)
		for _, b := range right {
			l := []api.Want{a, b}
			want, err := slowMake(size, l)
			wantMade(t, size, l, want, err)
		}
	}
}

func randomWants(source *rand.Rand, frame, n int) []api.Want {
	var divisors []int
	for d := 4; d <= frame; d++ {
		if frame%d == 0 {
			divisors = append(divisors, d)
		}
	}
	l := make([]api.Want, n)
	for i := range l {
		every := divisors[source.Intn(len(divisors))]
		long := 1 + source.Intn(1+every/6)
		l[i] = api.Want{Owner: source.Intn(16), From: source.Intn(every - long + 1), Long: long, Every: every}
	}
	return l
}

func TestMakeOfManyWants(t *testing.T) {
	source := rand.New(rand.NewSource(1))
	made := 0
	for range 5000 {
		size := []int{12, 60, 96, 120, 180}[source.Intn(5)]
		l := randomWants(source, size, 1+source.Intn(4))
		want, err := slowMake(size, l)
		wantMade(t, size, l, want, err)
		if err != api.OK {
			continue
		}
		made++
		if e := table.Check(want); e != api.OK {
			t.Errorf("Make answers %v, which Check tells %v of", want, e)
		}
	}
	if made < 500 {
		t.Error("too few tables to tell anything:", made)
	}
}

// P3.4

func TestTurns(t *testing.T) {
	x := of(10, 1, 2, 4, 3, 1, 4, 4, 2, 0, 9, 1, 15)
	for _, c := range []struct {
		x        api.Table
		from, to int
		want     []api.Window
	}{
		{x, 0, 10, windows(0, 1, -1, 1, 3, 4, 4, 2, 0, 6, 3, -1, 9, 1, 15)},
		{x, 0, 0, nil},
		{x, 7, 7, nil},
		{x, 10, 10, nil},
		{x, 2, 3, windows(2, 1, 4)},
		{x, 2, 4, windows(2, 2, 4)},
		{x, 2, 5, windows(2, 2, 4, 4, 1, 0)},
		{x, 3, 4, windows(3, 1, 4)},
		{x, 7, 8, windows(7, 1, -1)},
		{x, 8, 22, windows(8, 1, -1, 9, 1, 15, 10, 1, -1, 11, 3, 4, 14, 2, 0, 16, 3, -1, 19, 1, 15, 20, 1, -1, 21, 1, 4)},
		{x, top, top, nil},
		{x, top - 1, top, windows(top-1, 1, 0)},
		{x, top - 7, top, windows(top-7, 1, 15, top-6, 1, -1, top-5, 3, 4, top-2, 2, 0)},
		{of(10, 8, 2, 1), 7, 19, windows(7, 1, -1, 8, 2, 1, 10, 8, -1, 18, 1, 1)},
		// Where a frame ends nobody's turn ends.
		{of(10, 3, 2, 1), 0, 20, windows(0, 3, -1, 3, 2, 1, 5, 8, -1, 13, 2, 1, 15, 5, -1)},
		{of(10, 0, 2, 1, 8, 2, 1), 0, 20, windows(0, 2, 1, 2, 6, -1, 8, 4, 1, 12, 6, -1, 18, 2, 1)},
		{of(4, 0, 2, 1, 2, 2, 2), 3, 9, windows(3, 1, 2, 4, 2, 1, 6, 2, 2, 8, 1, 1)},
		{of(4, 0, 1, 1, 1, 2, 2, 3, 1, 1), 0, 8, windows(0, 1, 1, 1, 2, 2, 3, 2, 1, 5, 2, 2, 7, 1, 1)},
	} {
		wantTurns(t, c.x, c.from, c.to, c.want, api.OK)
	}
}

func TestTurnsOfOneOwnerAlone(t *testing.T) {
	row := replaceOwner(every(most, 0, 1, 1, 1), 6)
	for _, c := range []struct {
		x     api.Table
		owner int
	}{
		{of(1), -1},
		{of(3), -1},
		{of(frame), -1},
		{of(1, 0, 1, 0), 0},
		{of(9, 0, 9, 15), 15},
		{of(9, 0, 4, 5, 4, 5, 5), 5},
		{api.Table{Frame: most, Windows: row}, 6},
	} {
		for _, b := range [][2]int{{0, top}, {1, top - 1}, {7, 8}, {top - 1, top}, {0, 1}} {
			wantTurns(t, c.x, b[0], b[1], windows(b[0], b[1]-b[0], c.owner), api.OK)
		}
		wantTurns(t, c.x, 5, 5, nil, api.OK)
	}
}

func TestTurnsOfAsManyAsThereMayBe(t *testing.T) {
	// Two owners, a time each in turn: as many turns as times.
	two := of(2, 0, 1, 0, 1, 1, 1)
	full := api.Table{Frame: frame, Windows: every(most, 1, 2, 1, 16)}
	for _, c := range []struct {
		x           api.Table
		from, to, n int
		err         api.Errno
	}{
		{two, 0, 400, 400, api.OK},
		{two, 0, 401, 0, api.ErrLarge},
		{two, 1, 401, 400, api.OK},
		{two, 1, 402, 0, api.ErrLarge},
		{two, 0, top, 0, api.ErrLarge},
		{two, top - 400, top, 400, api.OK},
		{two, top - 401, top, 0, api.ErrLarge},
		{full, 0, 400, 400, api.OK},
		{full, 1, 401, 400, api.OK},
		{full, 0, 401, 0, api.ErrLarge},
		{full, 1, frame, 400, api.OK}, // the last of them is nobody's
		{full, 1, frame + 1, 400, api.OK},
		{full, 1, frame + 2, 0, api.ErrLarge},
		{full, 0, frame, 0, api.ErrLarge},
		{of(frame, 0, 1, 0), 0, 200 * frame, 400, api.OK},
		{of(frame, 0, 1, 0), 0, 200*frame + 1, 0, api.ErrLarge},
		{of(frame, 0, 1, 0), 1, 200*frame + 1, 400, api.OK},
		{of(frame, 0, 1, 0), 0, top, 0, api.ErrLarge},
		// Its turn goes on from frame to frame: what is at both ends of a frame is one.
		{of(10, 0, 4, 3, 5, 5, 3), 0, 1994, 399, api.OK},
		{of(10, 0, 4, 3, 5, 5, 3), 0, 1995, 400, api.OK},
		{of(10, 0, 4, 3, 5, 5, 3), 0, 1996, 0, api.ErrLarge},
	} {
		got, e := table.Turns(c.x, c.from, c.to)
		if e != c.err || len(got) != c.n || e != api.OK && got != nil {
			t.Errorf("Turns of %v from %d to %d: %d, %v, want %d, %v", c.x, c.from, c.to, len(got), e, c.n, c.err)
		}
		checkChain(t, got, c.from, c.to, e)
	}
}

// checkChain holds turns to begin at from and end at to, one behind the other, and each to be another's than the last.
func checkChain(t *testing.T, l []api.Window, from, to int, e api.Errno) {
	t.Helper()
	if e != api.OK {
		return
	}
	at, owner := from, -2
	for _, w := range l {
		if w.From != at || w.Long < 1 || w.Owner == owner {
			t.Errorf("%v behind %d of %d", w, at, owner)
		}
		at, owner = w.From+w.Long, w.Owner
	}
	if at != to {
		t.Errorf("ends at %d, not at %d", at, to)
	}
}

func TestTurnsAtItsBounds(t *testing.T) {
	for _, from := range edges {
		for _, to := range edges {
			switch {
			case from < 0 || from > to || to > top:
				wantTurns(t, of(3, 0, 3, 2), from, to, nil, api.ErrArg)
				wantTurns(t, of(2, 0, 1, 2), from, to, nil, api.ErrArg)
			case from == to:
				wantTurns(t, of(3, 0, 3, 2), from, to, nil, api.OK)
			default:
				wantTurns(t, of(3, 0, 3, 2), from, to, windows(from, to-from, 2), api.OK)
			}
		}
	}
}

// P3.2 and P3.4 against slow twins

// smallTables are all tables of a Frame with windows of two owners, each as long as it may be, or cut in pieces.
func smallTables(frame int) []api.Table {
	l := []api.Table{{Frame: frame}}
	for done := 0; done < len(l); done++ {
		x := l[done]
		end := 0
		for _, w := range x.Windows {
			end = w.From + w.Long
		}
		for from := end; from < frame; from++ {
			for long := 1; long <= frame-from; long++ {
				for _, owner := range []int{0, 15} {
					w := api.Window{From: from, Long: long, Owner: owner}
					l = append(l, api.Table{Frame: frame, Windows: append(slices.Clone(x.Windows), w)})
				}
			}
		}
	}
	return l
}

func checkAgainstMarks(t *testing.T, x api.Table, from, to int) {
	t.Helper()
	m := marks(x)
	for at := from; at < to; at++ {
		wantOwner(t, x, at, m[at%x.Frame], api.OK)
	}
	want, err := slowTurns(m, from, to)
	wantTurns(t, x, from, to, want, err)
}

func TestAllSmallTables(t *testing.T) {
	for size := 1; size <= 4; size++ {
		for _, x := range smallTables(size) {
			if e := table.Check(x); e != api.OK {
				t.Errorf("Check(%v) = %v", x, e)
			}
			m := marks(x)
			for owner := range 16 {
				wantTimes(t, x, owner, slowTimes(m, owner), api.OK)
			}
			for from := range 2*size + 1 {
				for to := from; to <= 3*size+1; to++ {
					checkAgainstMarks(t, x, from, to)
				}
			}
		}
	}
}

func randomTable(source *rand.Rand, size, n, owners int) api.Table {
	x := api.Table{Frame: size}
	end := 0
	for range n {
		from := end + max(0, source.Intn(5)-2)
		end = from + 1 + source.Intn(4)
		if end > size {
			break
		}
		x.Windows = append(x.Windows, api.Window{From: from, Long: end - from, Owner: source.Intn(owners)})
	}
	return x
}

func TestManyWindows(t *testing.T) {
	source := rand.New(rand.NewSource(2))
	for range 1000 {
		size := 1 + source.Intn(700)
		x := randomTable(source, size, source.Intn(most+1), 1+source.Intn(16))
		m := marks(x)
		for owner := range 16 {
			s, _ := table.Times(x, owner)
			wantTimes(t, x, owner, slowTimes(m, owner), api.OK)
			if e := span.Check(s); e != api.OK {
				t.Errorf("Times answers %v, which span.Check tells %v of", s, e)
			}
		}
		near := source.Intn(2 * size)
		checkAgainstMarks(t, x, near, near+source.Intn(1500))
		far := top - 1 - source.Intn(1500)
		checkAgainstMarks(t, x, far, far+source.Intn(top-far+1))
	}
}

// P1

func TestAllCallsAnswer(t *testing.T) {
	for _, a := range edges {
		for _, b := range edges {
			for _, c := range edges {
				for _, x := range []api.Table{of(a, b, c, 0), of(a, b, c, 1, c, b, 2), of(9, a, b, c), of(2, 0, 1, 3)} {
					table.Check(x)
					table.Owner(x, a)
					table.Times(x, b)
					table.Turns(x, b, c)
				}
				table.Make(a, wants(0, b, 1, c, 1, 0, c, b))
				table.Make(frame, wants(a, 0, b, c))
				table.Make(frame, wants(0, a, b, c))
			}
		}
	}
}

// P2

// roomy lays a list in front of room that holds something, and answers the list and all of it.
func roomy[T any](l []T, filler T) ([]T, []T) {
	room := slices.Concat(l, slices.Repeat([]T{filler}, 2*maxTurns))
	return room[:len(l)], room
}

// fill writes over a list and all room behind it.
func fill[T any](l []T, x T) {
	l = l[:cap(l)]
	for i := range l {
		l[i] = x
	}
}

// checkMemory calls twice with one list: nothing that is written over in one answer, or in the list, is seen elsewhere.
func checkMemory[T, R comparable](t *testing.T, what string, l []T, call func(l []T) []R) {
	t.Helper()
	var noT T
	var noR R
	x, room := roomy(l, noT)
	was := slices.Clone(room)
	got := call(x)
	told := slices.Clone(got)
	again := call(x)
	if !slices.Equal(room, was) {
		t.Errorf("%s changes what it is given", what)
	}
	fill(got, noR)
	if !slices.Equal(room, was) || !slices.Equal(again, told) {
		t.Errorf("%s answers memory that it shares", what)
	}
	fill(room, noT)
	if !slices.Equal(again, told) {
		t.Errorf("%s: %v became %v", what, told, again)
	}
}

func TestMemoryOfTables(t *testing.T) {
	const size = 1000
	for _, l := range [][]api.Window{
		nil, windows(0, size, 1), windows(0, 4, 1, 4, size-4, 1), windows(1, 3, 1), windows(1, 3, 1, 4, 2, 1, 6, 1, 0),
		windows(0, 3, 1, 8, 2, 2, 900, 100, 1), every(most, 0, 4, 2, 1), every(most, 1, 4, 3, 16), windows(5, 0, 1),
	} {
		checkMemory(t, "Turns", l, func(l []api.Window) []api.Window {
			turns, _ := table.Turns(api.Table{Frame: size, Windows: l}, 2, 990)
			return turns
		})
		checkMemory(t, "Times", l, func(l []api.Window) []api.Span {
			s, _ := table.Times(api.Table{Frame: size, Windows: l}, 1)
			return s.Spans
		})
		checkMemory(t, "what answers no list", l, func(l []api.Window) []api.Window {
			x := api.Table{Frame: size, Windows: l}
			table.Check(x)
			table.Owner(x, 2500)
			return nil
		})
	}
}

func TestMemoryOfMake(t *testing.T) {
	for _, l := range [][]api.Want{
		nil, wants(1, 0, 400, 400), wants(2, 8, 3, 20, 1, 1, 2, 5), wants(3, 2, 1, 4, 0, 0, 1, 4),
		wants(0, 0, 1, 5, 0, 0, 1, 5), wants(0, 0, 1, 7), singles(most, 2, 400), singles(most+1, 1, 400),
	} {
		checkMemory(t, "Make", l, func(l []api.Want) []api.Window {
			x, _ := table.Make(400, l)
			return x.Windows
		})
	}
}
