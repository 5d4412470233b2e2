package port_test

import (
	"math"
	"math/rand"
	"slices"
	"strings"
	"testing"

	"dutyroster/api"
	"dutyroster/port"
)

const (
	end    = api.MaxNum
	size   = 4096 // how many bytes a text may have
	room   = 100  // how many texts may wait
	steps  = api.MaxSteps
	sample = api.PSample
	queue  = api.PQueue
)

// edges stand on both sides of each bound that the chapter names, and at the ends of an int.
var edges = []int{
	math.MinInt, math.MinInt + 1, -end, -1, 0, 1, 2, 3, 4, room - 1, room, room + 1, size - 1, size, size + 1,
	end - 1, end, end + 1, math.MaxInt - 1, math.MaxInt,
}

func within(x, low, high int) bool { return low <= x && x <= high }

func write(s string, now int) api.PortOp {
	return api.PortOp{Kind: api.OWrite, Text: s, Now: now}
}

func read(now int) api.PortOp { return api.PortOp{Kind: api.ORead, Now: now} }

func wrong(e api.Errno) api.PortAns { return api.PortAns{Err: e} }

// got is what a read tells; fine what a write does.
func got(s string, fresh bool) api.PortAns { return api.PortAns{Text: s, Fresh: fresh} }

var fine api.PortAns

func samplePort(size, fresh, at int, l ...string) api.Port {
	return api.Port{Kind: sample, Size: size, Room: 1, Fresh: fresh, At: at, Texts: l}
}

func queuePort(size, room int, l ...string) api.Port {
	return api.Port{Kind: queue, Size: size, Room: room, Texts: l}
}

// texts tells n of them, no two alike.
func texts(n int) []string {
	var l []string
	for i := range n {
		l = append(l, strings.Repeat("x", i))
	}
	return l
}

func same(p, q api.Port) bool {
	return p.Kind == q.Kind && p.Size == q.Size && p.Room == q.Room && p.Fresh == q.Fresh && p.At == q.At &&
		slices.Equal(p.Texts, q.Texts)
}

func isNone(p api.Port) bool { return same(p, api.Port{}) && p.Texts == nil }

// slowCheck asks of each field by itself, whatever the others are.
func slowCheck(p api.Port) api.Errno {
	isSample, isQueue := p.Kind == sample, p.Kind == queue
	for _, bad := range []bool{
		!isSample && !isQueue, p.Size < 1, p.Size > size, p.Room < 1, p.Room > room, isSample && p.Room != 1,
		p.Fresh < 0, p.Fresh > end, isQueue && p.Fresh != 0,
	} {
		if bad {
			return api.ErrArg
		}
	}
	longest := 0
	for _, s := range p.Texts {
		longest = max(longest, len(s))
	}
	for _, bad := range []bool{
		len(p.Texts) > p.Room, longest > p.Size, p.At < 0, p.At > end, len(p.Texts) == 0 && p.At != 0,
		isQueue && p.At != 0,
	} {
		if bad {
			return api.ErrForm
		}
	}
	return api.OK
}

// slowPlay keeps no port: it tells of each op by what was written ahead of it and how often it was read.
func slowPlay(kind, size, room, fresh int, l []api.PortOp) (api.Port, []api.PortAns) {
	p := api.Port{Kind: kind, Size: size, Room: room, Fresh: fresh}
	var told []api.PortAns
	var written []api.PortOp
	reads := 0
	for _, op := range l {
		from := 0
		if kind == sample && len(written) > 0 {
			from = written[len(written)-1].Now
		}
		a := api.PortAns{}
		switch {
		case op.Kind != api.OWrite && op.Kind != api.ORead, op.Now < from, op.Now > end:
			a.Err = api.ErrArg
		case op.Kind == api.OWrite && len(op.Text) > size:
			a.Err = api.ErrLarge
		case op.Kind == api.OWrite && kind == queue && len(written)-reads == room:
			a.Err = api.ErrFull
		case op.Kind == api.OWrite:
			written = append(written, op)
		case len(written) == 0, kind == queue && len(written) == reads:
			a.Err = api.ErrNone
		case kind == sample:
			last := written[len(written)-1]
			a = api.PortAns{Text: last.Text, Fresh: op.Now <= last.Now+fresh}
		default:
			a = api.PortAns{Text: written[reads].Text, Fresh: true}
			reads++
		}
		told = append(told, a)
	}
	switch {
	case kind == queue:
		for _, w := range written[reads:] {
			p.Texts = append(p.Texts, w.Text)
		}
	case len(written) > 0:
		last := written[len(written)-1]
		p.Texts, p.At = []string{last.Text}, last.Now
	}
	return p, told
}

func wantCheck(t *testing.T, p api.Port, want api.Errno) {
	t.Helper()
	if e := port.Check(p); e != want {
		t.Errorf("Check(%v) = %v, want %v", p, e, want)
	}
}

// wantNone tells that no call takes p, whatever stands beside it.
func wantNone(t *testing.T, p api.Port, want api.Errno) {
	t.Helper()
	wantCheck(t, p, want)
	for _, now := range edges {
		wantNoWrite(t, p, "", now, want)
		wantNoWrite(t, p, strings.Repeat("x", size+1), now, want)
		wantNoRead(t, p, now, want)
	}
}

func wantWrite(t *testing.T, p api.Port, s string, now int, want api.Port) {
	t.Helper()
	if q, e := port.Write(p, s, now); !same(q, want) || e != api.OK {
		t.Errorf("Write(%v, %q, %d) = %v, %v, want %v", p, s, now, q, e, want)
	}
}

func wantNoWrite(t *testing.T, p api.Port, s string, now int, want api.Errno) {
	t.Helper()
	if q, e := port.Write(p, s, now); !isNone(q) || e != want {
		t.Errorf("Write(%v, %d bytes, %d) = %v, %v, want %v", p, len(s), now, q, e, want)
	}
}

func wantRead(t *testing.T, p api.Port, now int, want api.Port, text string, isFresh bool) {
	t.Helper()
	if q, s, fresh, e := port.Read(p, now); !same(q, want) || s != text || fresh != isFresh || e != api.OK {
		t.Errorf("Read(%v, %d) = %v, %q, %v, %v, want %v, %q, %v", p, now, q, s, fresh, e, want, text, isFresh)
	}
}

func wantNoRead(t *testing.T, p api.Port, now int, want api.Errno) {
	t.Helper()
	if q, s, fresh, e := port.Read(p, now); !isNone(q) || s != "" || fresh || e != want {
		t.Errorf("Read(%v, %d) = %v, %q, %v, %v, want %v", p, now, q, s, fresh, e, want)
	}
}

// wantPlay plays at the port that p is without its Texts and At: p is what comes of it.
func wantPlay(t *testing.T, l []api.PortOp, p api.Port, want []api.PortAns) {
	t.Helper()
	q, told, e := port.Play(p.Kind, p.Size, p.Room, p.Fresh, l)
	if !same(q, p) || !slices.Equal(told, want) || e != api.OK {
		t.Errorf("Play(%v) = %v, %v, %v, want %v, %v", l, q, told, e, p, want)
	}
}

func wantNoPlay(t *testing.T, p api.Port, l []api.PortOp, want api.Errno) {
	t.Helper()
	q, told, e := port.Play(p.Kind, p.Size, p.Room, p.Fresh, l)
	if !isNone(q) || told != nil || e != want {
		t.Errorf("Play(%v, %d ops) = %v, %v, %v, want %v", p, len(l), q, told, e, want)
	}
}

func wantAsSlow(t *testing.T, p api.Port, l []api.PortOp) {
	t.Helper()
	q, told := slowPlay(p.Kind, p.Size, p.Room, p.Fresh, l)
	wantPlay(t, l, q, told)
}

// P10.1

func TestCheck(t *testing.T) {
	long := strings.Repeat("x", size)
	for _, p := range []api.Port{
		samplePort(1, 0, 0), samplePort(size, end, 0), samplePort(1, 0, 0, ""), samplePort(1, 0, 0, "a"),
		samplePort(size, 0, end, long), samplePort(size-1, end, 1, long[1:]), samplePort(3, 0, end-1, "\xff\x00"),
		queuePort(1, 1), queuePort(size, room), queuePort(1, 1, ""), queuePort(1, 2, "a"), queuePort(1, 2, "a", "a"),
		queuePort(size, room, slices.Repeat([]string{long}, room)...), queuePort(room, room, texts(room-1)...),
		{Kind: sample, Size: 1, Room: 1, Texts: []string{}}, {Kind: queue, Size: 1, Room: 1, Texts: []string{}},
	} {
		wantCheck(t, p, api.OK)
	}
}

func TestNoPort(t *testing.T) {
	wantNone(t, api.Port{}, api.ErrArg)
	for _, x := range edges {
		for _, p := range []api.Port{samplePort(2, 3, 4, "ab"), queuePort(2, 3, "ab", "c"), samplePort(2, 0, 0), queuePort(2, 1)} {
			// What can't be, ahead of what isn't in form.
			worse := p
			worse.Texts, worse.At = texts(room+9), -1
			for _, p := range []api.Port{p, worse} {
				q := p
				q.Kind = x
				if x != sample && x != queue {
					wantNone(t, q, api.ErrArg)
				}
				q = p
				q.Size = x
				if !within(x, 1, size) {
					wantNone(t, q, api.ErrArg)
				}
				q = p
				q.Room = x
				if !within(x, 1, room) || p.Kind == sample && x != 1 {
					wantNone(t, q, api.ErrArg)
				}
				q = p
				q.Fresh = x
				if !within(x, 0, end) || p.Kind == queue && x != 0 {
					wantNone(t, q, api.ErrArg)
				}
			}
		}
	}
}

func TestNotInForm(t *testing.T) {
	for _, p := range []api.Port{
		// More than there is room for.
		samplePort(2, 3, 4, "a", "b"), samplePort(2, 3, 0, "", ""), queuePort(2, 1, "a", "b"), queuePort(1, 1, "", ""),
		queuePort(size, room, texts(room+1)...), queuePort(size, room-1, texts(room)...),
		// Longer than it may be, wherever it stands.
		samplePort(1, 3, 4, "ab"), samplePort(size, 3, 4, strings.Repeat("x", size+1)), queuePort(1, 3, "ab"),
		queuePort(2, 3, "abc", "a", "b"), queuePort(2, 3, "a", "abc", "b"), queuePort(2, 3, "a", "b", "abc"),
		queuePort(size, 3, strings.Repeat("x", size+1)),
		// A text is bytes, however many signs they are.
		samplePort(1, 0, 0, "\u00e4"), queuePort(2, 1, "\u20ac"),
	} {
		wantNone(t, p, api.ErrForm)
	}
	for _, x := range edges {
		if !within(x, 0, end) {
			wantNone(t, samplePort(2, 3, x, "a"), api.ErrForm)
		}
		if x != 0 {
			// When the last text was written is told where there is one, and never of a queue.
			for _, p := range []api.Port{samplePort(2, 3, x), queuePort(2, 3), queuePort(2, 3, "a"), queuePort(2, 1, "a")} {
				p.At = x
				wantNone(t, p, api.ErrForm)
			}
		}
	}
}

func TestCheckOfAllEdges(t *testing.T) {
	for _, kind := range []int{0, sample, queue, 3} {
		for _, a := range edges {
			for _, b := range edges {
				for _, c := range edges {
					for _, l := range [][]string{nil, {""}, {"ab"}, {"ab", "c"}, texts(4)} {
						for _, p := range []api.Port{
							{Kind: kind, Size: a, Room: b, Fresh: c, Texts: l},
							{Kind: kind, Size: a, Room: b, At: c, Texts: l},
							{Kind: kind, Size: a, Room: 1, Fresh: b, At: c, Texts: l},
							{Kind: kind, Size: 2, Room: a, Fresh: b, At: c, Texts: l},
						} {
							wantCheck(t, p, slowCheck(p))
						}
					}
				}
			}
		}
	}
}

// P10.2

func TestWriteOfSample(t *testing.T) {
	long := strings.Repeat("x", size)
	wantWrite(t, samplePort(2, 3, 0), "ab", 4, samplePort(2, 3, 4, "ab"))
	wantWrite(t, samplePort(2, 3, 0), "", 0, samplePort(2, 3, 0, ""))
	// It is the only text, whatever was there.
	wantWrite(t, samplePort(2, 3, 4, "ab"), "c", 9, samplePort(2, 3, 9, "c"))
	wantWrite(t, samplePort(2, 3, 4, "ab"), "ab", 5, samplePort(2, 3, 5, "ab"))
	wantWrite(t, samplePort(2, 3, 4, "ab"), "", 4, samplePort(2, 3, 4, ""))
	wantWrite(t, samplePort(size, end, end, long), long[1:], end, samplePort(size, end, end, long[1:]))
	wantWrite(t, samplePort(size, 0, 0), long, end, samplePort(size, 0, end, long))
	wantWrite(t, samplePort(3, 0, 0), "\xff\x00\n", 1, samplePort(3, 0, 1, "\xff\x00\n"))
}

func TestReadOfSample(t *testing.T) {
	for _, c := range []struct {
		fresh, at, now int
		want           bool
	}{
		{3, 4, 4, true}, {3, 4, 6, true}, {3, 4, 7, true}, {3, 4, 8, false}, {3, 4, end, false},
		{0, 4, 4, true}, {0, 4, 5, false}, {0, 0, 0, true}, {0, end, end, true}, {1, 0, 1, true}, {1, 0, 2, false},
		{end, 0, end, true}, {end - 1, 0, end, false}, {end - 1, 1, end, true}, {end, end, end, true}, {end, 4, 9, true},
	} {
		// However often it is read, it is there.
		p := samplePort(2, c.fresh, c.at, "ab")
		wantRead(t, p, c.now, p, "ab", c.want)
		p = samplePort(1, c.fresh, c.at, "")
		wantRead(t, p, c.now, p, "", c.want)
	}
}

func TestWriteOfQueue(t *testing.T) {
	long := strings.Repeat("x", size)
	wantWrite(t, queuePort(2, 3), "ab", 4, queuePort(2, 3, "ab"))
	wantWrite(t, queuePort(2, 3, "ab"), "c", 0, queuePort(2, 3, "ab", "c"))
	wantWrite(t, queuePort(2, 3, "ab", "c"), "ab", end, queuePort(2, 3, "ab", "c", "ab"))
	wantWrite(t, queuePort(1, 1), "", 1, queuePort(1, 1, ""))
	wantWrite(t, queuePort(size, 2, long), long, 1, queuePort(size, 2, long, long))
	wantWrite(t, queuePort(size, room, texts(room-1)...), "last", 1, queuePort(size, room, append(texts(room-1), "last")...))
	for _, p := range []api.Port{
		queuePort(2, 1, "ab"), queuePort(2, 1, ""), queuePort(2, 3, "ab", "c", ""), queuePort(size, room, texts(room)...),
	} {
		wantNoWrite(t, p, "", 5, api.ErrFull)
		wantNoWrite(t, p, p.Texts[0], end, api.ErrFull)
	}
}

func TestReadOfQueue(t *testing.T) {
	wantRead(t, queuePort(2, 3, "ab", "c", "d"), 4, queuePort(2, 3, "c", "d"), "ab", true)
	wantRead(t, queuePort(2, 3, "c", "d"), 0, queuePort(2, 3, "d"), "c", true)
	wantRead(t, queuePort(2, 3, "d"), end, queuePort(2, 3), "d", true)
	wantRead(t, queuePort(2, 1, ""), 1, queuePort(2, 1), "", true)
	wantRead(t, queuePort(size, room, texts(room)...), 1, queuePort(size, room, texts(room)[1:]...), "", true)
}

func TestReadOfNone(t *testing.T) {
	for _, p := range []api.Port{samplePort(2, 3, 0), samplePort(size, end, 0), queuePort(2, 3), queuePort(1, 1)} {
		for _, now := range edges {
			if within(now, 0, end) {
				wantNoRead(t, p, now, api.ErrNone)
			} else {
				wantNoRead(t, p, now, api.ErrArg)
			}
		}
	}
}

func TestNow(t *testing.T) {
	for _, x := range edges {
		for _, at := range []int{0, 1, 4, end - 1, end} {
			p := samplePort(2, 3, at, "ab")
			if within(x, at, end) {
				wantWrite(t, p, "c", x, samplePort(2, 3, x, "c"))
				wantRead(t, p, x, p, "ab", x <= at+3)
				wantNoWrite(t, p, "abc", x, api.ErrLarge)
				continue
			}
			wantNoWrite(t, p, "c", x, api.ErrArg)
			wantNoWrite(t, p, "abc", x, api.ErrArg)
			wantNoRead(t, p, x, api.ErrArg)
		}
		p, q := queuePort(2, 2, "ab"), queuePort(2, 1, "ab")
		if within(x, 0, end) {
			wantWrite(t, p, "c", x, queuePort(2, 2, "ab", "c"))
			wantRead(t, p, x, queuePort(2, 2), "ab", true)
			wantNoWrite(t, q, "c", x, api.ErrFull)
			continue
		}
		// Ahead of what is told of the text, and of the room.
		wantNoWrite(t, p, "abc", x, api.ErrArg)
		wantNoWrite(t, q, "c", x, api.ErrArg)
		wantNoRead(t, p, x, api.ErrArg)
	}
}

func TestTooLarge(t *testing.T) {
	for _, n := range []int{1, 2, 3, room, size - 1, size} {
		for _, more := range []int{1, 2, size} {
			s := strings.Repeat("x", n+more)
			wantNoWrite(t, samplePort(n, 0, 0), s, 1, api.ErrLarge)
			wantNoWrite(t, samplePort(n, 0, 0, "a"), s, 1, api.ErrLarge)
			wantNoWrite(t, queuePort(n, 2, "a"), s, 1, api.ErrLarge)
			// Ahead of what is told of the room.
			wantNoWrite(t, queuePort(n, 1, "a"), s, 1, api.ErrLarge)
		}
		s := strings.Repeat("x", n)
		wantWrite(t, samplePort(n, 0, 0), s, 1, samplePort(n, 0, 1, s))
		wantWrite(t, queuePort(n, 1), s, 1, queuePort(n, 1, s))
	}
	// A text is bytes, however many signs they are.
	wantNoWrite(t, samplePort(1, 0, 0), "\u00e4", 1, api.ErrLarge)
	wantNoWrite(t, queuePort(2, 1), "\u20ac", 1, api.ErrLarge)
}

// P10.3

func TestPlay(t *testing.T) {
	// The document's: a queue with room for one refuses the second text.
	wantPlay(t, []api.PortOp{write("a", 1), write("b", 2)}, queuePort(1, 1, "a"), []api.PortAns{fine, wrong(api.ErrFull)})
	wantPlay(t, []api.PortOp{write("a", 1), read(2), write("b", 2), read(2), read(2)}, queuePort(1, 1),
		[]api.PortAns{fine, got("a", true), fine, got("b", true), wrong(api.ErrNone)})
	// At a queue no time is behind another one.
	wantPlay(t, []api.PortOp{write("b", 9), write("a", 0), write("b", end), read(3), write("c", 3), read(0)}, queuePort(1, 3, "b", "c"),
		[]api.PortAns{fine, fine, fine, got("b", true), fine, got("a", true)})
	wantPlay(t, []api.PortOp{write("a", 1), read(1), read(3), read(2), write("b", 2), read(4), read(5)}, samplePort(1, 2, 2, "b"),
		[]api.PortAns{fine, got("a", true), got("a", true), got("a", true), fine, got("b", true), got("b", false)})
	// A read has no time that a write must not be behind.
	wantPlay(t, []api.PortOp{read(9), write("a", 3), read(9), write("b", 2), write("c", 4)}, samplePort(1, 2, 4, "c"),
		[]api.PortAns{wrong(api.ErrNone), fine, got("a", false), wrong(api.ErrArg), fine})
	for _, p := range []api.Port{samplePort(1, 0, 0), samplePort(size, end, 0), queuePort(1, 1), queuePort(size, room)} {
		wantPlay(t, nil, p, nil)
		wantPlay(t, []api.PortOp{}, p, nil)
		wantPlay(t, []api.PortOp{read(5), {}}, p, []api.PortAns{wrong(api.ErrNone), wrong(api.ErrArg)})
	}
}

// What tells an error changes nothing: whatever it is, and wherever it stands, the others tell the same.
func TestErrorChangesNothing(t *testing.T) {
	bad := []api.PortOp{write("abc", 5), write("c", 2), write("c", -1), write("c", end+1), read(-1), read(2), read(end + 1), {Text: "c", Now: 5}}
	for i, want := range []api.Errno{api.ErrLarge, api.ErrArg, api.ErrArg, api.ErrArg, api.ErrArg, api.ErrArg, api.ErrArg, api.ErrArg} {
		wantPlay(t, []api.PortOp{write("a", 4), bad[i], read(5)}, samplePort(2, 3, 4, "a"), []api.PortAns{fine, wrong(want), got("a", true)})
	}
	bad = []api.PortOp{write("abc", 5), write("c", 2), write("c", -1), write("c", end+1), read(-1), read(end + 1), {Text: "c", Now: 5}}
	for i, want := range []api.Errno{api.ErrLarge, api.ErrFull, api.ErrArg, api.ErrArg, api.ErrArg, api.ErrArg, api.ErrArg} {
		wantPlay(t, []api.PortOp{write("a", 4), write("b", 4), bad[i], read(5)}, queuePort(2, 2, "b"),
			[]api.PortAns{fine, fine, wrong(want), got("a", true)})
	}
}

func TestOtherKindsOfOps(t *testing.T) {
	for _, kind := range edges {
		if kind == api.OWrite || kind == api.ORead {
			continue
		}
		for _, now := range edges {
			// Whatever else stands in it, also where there is nothing to be read, or no room.
			for _, s := range []string{"", "a", "abc"} {
				op := api.PortOp{Kind: kind, Now: now, Text: s}
				wantPlay(t, []api.PortOp{op, write("a", 4), op}, samplePort(2, 3, 4, "a"), []api.PortAns{wrong(api.ErrArg), fine, wrong(api.ErrArg)})
				wantPlay(t, []api.PortOp{op, write("a", 4), op}, queuePort(2, 1, "a"), []api.PortAns{wrong(api.ErrArg), fine, wrong(api.ErrArg)})
			}
		}
	}
}

// The text of a read is nothing to it.
func TestReadWithText(t *testing.T) {
	op := api.PortOp{Kind: api.ORead, Now: 5, Text: strings.Repeat("x", size+1)}
	wantPlay(t, []api.PortOp{op, write("a", 4), op}, samplePort(2, 3, 4, "a"), []api.PortAns{wrong(api.ErrNone), fine, got("a", true)})
	wantPlay(t, []api.PortOp{op, write("a", 4), op}, queuePort(2, 1), []api.PortAns{wrong(api.ErrNone), fine, got("a", true)})
}

func TestNoPlay(t *testing.T) {
	many := slices.Repeat([]api.PortOp{read(0)}, steps+1)
	for _, a := range edges {
		for _, b := range edges {
			for _, p := range []api.Port{
				{Kind: a, Size: b, Room: 1}, {Kind: sample, Size: a, Room: 1, Fresh: b}, {Kind: queue, Size: a, Room: b},
				{Kind: sample, Size: 1, Room: a, Fresh: b}, {Kind: queue, Size: 1, Room: a, Fresh: b},
			} {
				want := slowCheck(p)
				if want == api.OK {
					wantPlay(t, nil, p, nil)
					want = api.ErrLarge
				} else {
					wantNoPlay(t, p, nil, want)
					wantNoPlay(t, p, []api.PortOp{write("a", 1), read(1)}, want)
				}
				wantNoPlay(t, p, many, want)
			}
		}
	}
}

func TestPlayOfManyOps(t *testing.T) {
	for _, p := range []api.Port{samplePort(1, 0, 0), queuePort(1, room)} {
		for _, op := range []api.PortOp{write("a", 1), read(1), {Kind: 9}} {
			l := slices.Repeat([]api.PortOp{op}, steps)
			wantAsSlow(t, p, l)
			wantNoPlay(t, p, append(l, op), api.ErrLarge)
			wantNoPlay(t, p, append(l, l...), api.ErrLarge)
		}
	}
	// A queue that is filled up and emptied again and again.
	var l []api.PortOp
	for _, s := range texts(room + 1) {
		l = append(l, write(s, 7))
	}
	for range room + 1 {
		l = append(l, read(3))
	}
	wantAsSlow(t, queuePort(size, room), slices.Concat(l, l))
	wantAsSlow(t, queuePort(size, room-1), slices.Concat(l, l))
	wantAsSlow(t, queuePort(room/2, room/2), slices.Concat(l, l))
}

// All plays of up to four ops of a few.
func TestAllSmallPlays(t *testing.T) {
	ops := []api.PortOp{
		write("", 0), write("a", 1), write("b", 2), write("ab", 1), write("abc", 2), write("a", -1), read(-1), read(0), read(1),
		read(2), read(4), {Kind: 3},
	}
	ports := []api.Port{samplePort(1, 0, 0), samplePort(2, 1, 0), samplePort(2, 2, 0), queuePort(1, 1), queuePort(2, 1), queuePort(2, 2)}
	var all func(l []api.PortOp, more int)
	all = func(l []api.PortOp, more int) {
		for _, p := range ports {
			wantAsSlow(t, p, l)
		}
		for _, op := range ops {
			if more > 0 {
				all(append(slices.Clone(l), op), more-1)
			}
		}
	}
	all(nil, 4)
}

func randomOps(source *rand.Rand, n int) []api.PortOp {
	var l []api.PortOp
	now := 0
	for range n {
		now = max(0, now+source.Intn(8)-2)
		s := strings.Repeat(string(rune('a'+source.Intn(26))), source.Intn(6))
		l = append(l, api.PortOp{Kind: 1 + source.Intn(2)*source.Intn(2), Now: now, Text: s})
		if source.Intn(30) == 0 {
			l[len(l)-1] = api.PortOp{Kind: source.Intn(4), Now: edges[source.Intn(len(edges))], Text: s}
		}
	}
	return l
}

func TestRandomPlays(t *testing.T) {
	source := rand.New(rand.NewSource(1))
	for range 2000 {
		l := randomOps(source, source.Intn(200))
		wantAsSlow(t, samplePort(1+source.Intn(6), source.Intn(6), 0), l)
		wantAsSlow(t, queuePort(1+source.Intn(6), 1+source.Intn(room)), l)
	}
}

// A play is its ops, one behind the other: each of them is a Write or a Read of the port that the last good one told.
func TestPlayIsWritesAndReads(t *testing.T) {
	source := rand.New(rand.NewSource(2))
	for range 500 {
		l := randomOps(source, 60)
		for _, p := range []api.Port{samplePort(4, 3, 0), queuePort(4, 5)} {
			var told []api.PortAns
			for _, op := range l {
				q, a := api.Port{}, wrong(api.ErrArg)
				switch op.Kind {
				case api.OWrite:
					q, a.Err = port.Write(p, op.Text, op.Now)
				case api.ORead:
					q, a.Text, a.Fresh, a.Err = port.Read(p, op.Now)
				}
				told = append(told, a)
				if a.Err == api.OK {
					wantCheck(t, q, api.OK)
					p = q
				}
			}
			wantPlay(t, l, p, told)
		}
	}
}

// P1

func TestAllCallsAnswer(t *testing.T) {
	for _, a := range edges {
		for _, b := range edges {
			for _, c := range edges {
				for _, p := range []api.Port{
					{Kind: a, Size: b, Room: c, Texts: []string{"a"}}, {Kind: sample, Size: a, Room: b, At: c, Texts: texts(2)},
					{Kind: queue, Size: a, Room: b, Fresh: c}, {Kind: sample, Size: 1, Room: 1, Fresh: a, At: b, Texts: texts(1)},
					{Kind: queue, Size: 3, Room: a, At: b, Texts: texts(3)},
				} {
					want := slowCheck(p)
					wantCheck(t, p, want)
					_, e := port.Write(p, "abcd", c)
					_, _, _, f := port.Read(p, c)
					if want != api.OK && (e != want || f != want) {
						t.Errorf("of %v Write tells %v, Read %v, want %v", p, e, f, want)
					}
					port.Play(a, b, c, p.Fresh, []api.PortOp{{Kind: a, Now: b}, write("a", c), read(c)})
				}
			}
		}
	}
}

// P2

// behind tells l with texts behind its end, that are none of its.
func behind(l []string) []string {
	return slices.Concat(l, slices.Repeat([]string{"behind"}, room+1))[:len(l)]
}

func spoil(l []string) {
	l = l[:cap(l)]
	for i := range l {
		l[i] = "spoilt"
	}
}

func TestMemory(t *testing.T) {
	for _, p := range []api.Port{
		samplePort(9, 3, 0), samplePort(9, 3, 4, "a"), queuePort(9, 9), queuePort(9, 9, "a"), queuePort(9, 9, "a", "b", "c"),
		queuePort(size, room, texts(room-1)...),
	} {
		in := p
		in.Texts = behind(p.Texts)
		was := slices.Clone(in.Texts[:cap(in.Texts)])
		calls := []func() api.Port{
			func() api.Port { q, _ := port.Write(in, "w", 5); return q },
			func() api.Port { q, _, _, _ := port.Read(in, 5); return q },
		}
		for i, call := range calls {
			first, second := call(), call()
			had := slices.Clone(second.Texts)
			// Whoever fills what is answered, its spare room included, changes nothing that is handed in or answered elsewhere.
			spoil(first.Texts)
			if !slices.Equal(in.Texts[:cap(in.Texts)], was) {
				t.Errorf("call %d of %v: what is handed in is changed", i, p)
			}
			if !slices.Equal(second.Texts, had) || !same(call(), second) {
				t.Errorf("call %d of %v: something is kept", i, p)
			}
			// What was answered stays as it was, whatever becomes of what was handed in.
			spoil(in.Texts)
			if !slices.Equal(second.Texts, had) {
				t.Errorf("call %d of %v: an answer is changed", i, p)
			}
			copy(in.Texts[:cap(in.Texts)], was)
		}
		port.Check(in)
		if !slices.Equal(in.Texts[:cap(in.Texts)], was) {
			t.Errorf("Check of %v changes it", p)
		}
	}
}

func TestMemoryOfPlay(t *testing.T) {
	source := rand.New(rand.NewSource(3))
	for _, p := range []api.Port{samplePort(4, 3, 0), queuePort(4, 5), queuePort(4, room)} {
		l := randomOps(source, 80)
		in := slices.Concat(l, slices.Repeat([]api.PortOp{write("behind", 1)}, 90))
		was := slices.Clone(in)
		call := func() (api.Port, []api.PortAns) {
			q, told, _ := port.Play(p.Kind, p.Size, p.Room, p.Fresh, in[:len(l)])
			return q, told
		}
		q, told := call()
		hadTexts, hadTold := slices.Clone(q.Texts), slices.Clone(told)
		other, otherTold := call()
		spoil(other.Texts)
		clear(otherTold[:cap(otherTold)])
		port.Play(p.Kind, 2, 1, p.Fresh, []api.PortOp{write("z", 1), write("y", 2)})
		again, againTold := call()
		if !slices.Equal(in, was) {
			t.Errorf("Play at %v changes what is handed in", p)
		}
		clear(in)
		if !slices.Equal(q.Texts, hadTexts) || !slices.Equal(told, hadTold) || !same(again, q) || !slices.Equal(againTold, told) {
			t.Errorf("Play at %v keeps something", p)
		}
	}
}
