package vm_test

import (
	"math"
	"math/big"
	"math/rand"
	"slices"
	"testing"

	"dutyroster/api"
	"dutyroster/vm"
)

const (
	least   = math.MinInt32
	most    = math.MaxInt32
	codes   = api.MaxCode
	regs    = api.MaxRegs
	ports   = api.MaxPorts
	fuels   = api.MaxFuel
	numbers = 5000 // how many may come in
)

// edges stand on both sides of each bound that the chapter names, and at the ends of an int.
var edges = []int{
	math.MinInt, math.MinInt + 1, -api.MaxNum, least - 1, least, least + 1, -1, 0, 1, 2, 3, 4, 5, 6, 7, 8, 9, 10, 11, 12,
	codes - 1, codes, codes + 1, fuels - 1, fuels, fuels + 1, most - 1, most, most + 1, api.MaxNum, math.MaxInt - 1, math.MaxInt,
}

func within(x, low, high int) bool { return low <= x && x <= high }

func set(a, b int) api.Ins  { return api.Ins{Code: api.ISet, A: a, B: b} }
func cpy(a, b int) api.Ins  { return api.Ins{Code: api.ICopy, A: a, B: b} }
func add(a, b int) api.Ins  { return api.Ins{Code: api.IAdd, A: a, B: b} }
func sub(a, b int) api.Ins  { return api.Ins{Code: api.ISub, A: a, B: b} }
func mul(a, b int) api.Ins  { return api.Ins{Code: api.IMul, A: a, B: b} }
func jump(b int) api.Ins    { return api.Ins{Code: api.IJump, B: b} }
func zero(a, b int) api.Ins { return api.Ins{Code: api.IZero, A: a, B: b} }
func less(a, b int) api.Ins { return api.Ins{Code: api.ILess, A: a, B: b} }
func in(a int) api.Ins      { return api.Ins{Code: api.IIn, A: a} }
func out(a, b int) api.Ins  { return api.Ins{Code: api.IOut, A: a, B: b} }

var halt = api.Ins{Code: api.IHalt}

// at tells a Vm with such first registers; all others are 0.
func at(n int, l ...int) api.Vm {
	for len(l) < regs {
		l = append(l, 0)
	}
	return api.Vm{At: n, Regs: l}
}

func halted(v api.Vm) api.Vm { v.Halts = true; return v }

func faulty(v api.Vm) api.Vm { v.Fault = true; return v }

// many tells a program of n instructions that goes round.
func many(n int) []api.Ins {
	l := slices.Repeat([]api.Ins{add(0, 1)}, n)
	if n > 0 {
		l[n-1] = jump(0)
	}
	return l
}

func same(v, w api.Vm) bool {
	return v.At == w.At && slices.Equal(v.Regs, w.Regs) && v.Halts == w.Halts && v.Fault == w.Fault
}

// told is what Run answers beside an error.
type told struct {
	v    api.Vm
	out  []api.Emit
	took int
	used int
}

func isSame(x, y told) bool {
	return same(x.v, y.v) && slices.Equal(x.out, y.out) && x.took == y.took && x.used == y.used
}

func run(p []api.Ins, v api.Vm, in []int, fuel int) (told, api.Errno) {
	w, out, took, used, e := vm.Run(p, v, in, fuel)
	return told{w, out, took, used}, e
}

// shape is what an instruction has, by the chapter: the bounds of A, and those of B. Of jumps B has no end of its own.
type shape struct {
	lowA, highA, lowB, highB int
	jumps                    bool
}

func shapes() map[int]shape {
	two := shape{highA: regs - 1, highB: regs - 1}
	branch := shape{highA: regs - 1, jumps: true}
	return map[int]shape{
		api.ISet:  {highA: regs - 1, lowB: least, highB: most},
		api.ICopy: two, api.IAdd: two, api.ISub: two, api.IMul: two,
		api.IJump: {jumps: true}, api.IZero: branch, api.ILess: branch,
		api.IIn:   {highA: regs - 1},
		api.IOut:  {highA: regs - 1, highB: ports - 1},
		api.IHalt: {},
	}
}

func slowCheck(p []api.Ins) api.Errno {
	if len(p) > codes {
		return api.ErrLarge
	}
	all := shapes()
	for _, x := range p {
		s, ok := all[x.Code]
		if s.jumps {
			s.highB = len(p)
		}
		if !ok || !within(x.A, s.lowA, s.highA) || !within(x.B, s.lowB, s.highB) {
			return api.ErrForm
		}
	}
	return api.OK
}

// goRound knows no bound of a number of the language.
func goRound(x *big.Int) int {
	size := new(big.Int).Lsh(big.NewInt(1), 32)
	half := new(big.Int).Lsh(big.NewInt(1), 31)
	x.Add(x, half)
	x.Mod(x, size)
	return int(x.Sub(x, half).Int64())
}

// slowRun makes each Vm anew from the one ahead of it, and asks of the rules one by one.
func slowRun(p []api.Ins, v api.Vm, in []int, fuel int) told {
	t := told{v: v}
	for t.used < fuel && !t.v.Halts && !t.v.Fault {
		next := t.v
		next.Regs = slices.Clone(t.v.Regs)
		next.At = t.v.At + 1
		if t.v.At >= len(p) {
			next.At, next.Fault = t.v.At, true
			t.v, t.used = next, t.used+1
			continue
		}
		x := p[t.v.At]
		a := big.NewInt(int64(t.v.Regs[x.A]))
		b := new(big.Int)
		if within(x.B, 0, regs-1) {
			b.SetInt64(int64(t.v.Regs[x.B]))
		}
		if x.Code == api.ISet {
			next.Regs[x.A] = x.B
		}
		if x.Code == api.ICopy {
			next.Regs[x.A] = goRound(b)
		}
		if x.Code == api.IAdd {
			next.Regs[x.A] = goRound(a.Add(a, b))
		}
		if x.Code == api.ISub {
			next.Regs[x.A] = goRound(a.Sub(a, b))
		}
		if x.Code == api.IMul {
			next.Regs[x.A] = goRound(a.Mul(a, b))
		}
		if x.Code == api.IJump || x.Code == api.IZero && a.Sign() == 0 || x.Code == api.ILess && a.Sign() < 0 {
			next.At = x.B
		}
		if x.Code == api.IIn {
			if len(in) == t.took {
				return t
			}
			next.Regs[x.A] = in[t.took]
			t.took++
		}
		if x.Code == api.IOut {
			t.out = append(t.out, api.Emit{Port: x.B, N: t.v.Regs[x.A]})
		}
		if x.Code == api.IHalt {
			next.At, next.Halts = t.v.At, true
		}
		t.v, t.used = next, t.used+1
	}
	return t
}

func wantCheck(t *testing.T, p []api.Ins, want api.Errno) {
	t.Helper()
	if e := vm.Check(p); e != want {
		t.Errorf("Check(%v) = %v, want %v", p, e, want)
	}
}

func wantRight(t *testing.T, v api.Vm, want api.Errno) {
	t.Helper()
	if e := vm.Right(v); e != want {
		t.Errorf("Right(%v) = %v, want %v", v, e, want)
	}
}

func wantRun(t *testing.T, p []api.Ins, v api.Vm, in []int, fuel int, want told) {
	t.Helper()
	got, e := run(p, v, in, fuel)
	if !isSame(got, want) || e != api.OK {
		t.Errorf("Run(%v, %v, %v, %d) = %v, %v, want %v", p, v, in, fuel, got, e, want)
	}
}

func wantNoRun(t *testing.T, p []api.Ins, v api.Vm, in []int, fuel int, want api.Errno) {
	t.Helper()
	got, e := run(p, v, in, fuel)
	if !isSame(got, told{}) || got.v.Regs != nil || got.out != nil || e != want {
		t.Errorf("Run(%d instructions, %v, %d numbers, %d) = %v, %v, want %v", len(p), v, len(in), fuel, got, e, want)
	}
}

func wantAsSlow(t *testing.T, p []api.Ins, v api.Vm, in []int, fuel int) {
	t.Helper()
	wantRun(t, p, v, in, fuel, slowRun(p, v, in, fuel))
}

// P11.1

func TestCheck(t *testing.T) {
	for _, p := range [][]api.Ins{
		nil, {}, {halt}, {set(0, least)}, {set(7, most)}, {set(3, 0)}, {cpy(0, 7)}, {add(7, 0)}, {sub(7, 7)}, {mul(1, 2)},
		{jump(0)}, {jump(1)}, {zero(0, 0)}, {zero(7, 1)}, {less(0, 1)}, {less(7, 0)}, {in(0)}, {in(7)}, {out(0, 0)},
		{out(7, 3)}, {halt, jump(3), zero(1, 3)}, many(codes - 1), many(codes), slices.Repeat([]api.Ins{jump(codes)}, codes),
	} {
		wantCheck(t, p, api.OK)
	}
	for _, p := range [][]api.Ins{
		{{}}, {{Code: 12}}, {{Code: -1}}, {{Code: api.ISet + 1<<32}}, {set(0, least-1)}, {set(0, most+1)}, {set(8, 0)},
		{set(-1, 0)}, {cpy(8, 0)}, {cpy(0, 8)}, {add(0, -1)}, {sub(-1, 0)}, {mul(0, 8)}, {jump(2)}, {jump(-1)},
		{{Code: api.IJump, A: 1}}, {{Code: api.IJump, A: -1, B: 1}}, {zero(8, 0)}, {zero(0, 2)}, {less(0, -1)}, {less(-1, 0)},
		{{Code: api.IIn, B: 1}}, {{Code: api.IIn, B: -1}}, {in(8)}, {out(0, 4)}, {out(0, -1)}, {out(8, 0)},
		{{Code: api.IHalt, A: 1}}, {{Code: api.IHalt, B: 1}}, {{Code: api.IHalt, A: -1}},
	} {
		wantCheck(t, p, api.ErrForm)
		// Wherever it stands.
		for _, i := range []int{0, 1, 5} {
			wantCheck(t, slices.Insert(slices.Repeat([]api.Ins{set(0, 0)}, 5), i, slices.Concat(p, []api.Ins{jump(9)})...), api.ErrForm)
		}
	}
}

func TestCheckOfAllEdges(t *testing.T) {
	for _, code := range edges {
		for _, a := range edges {
			for _, b := range edges {
				x := api.Ins{Code: code, A: a, B: b}
				for _, n := range []int{0, 1, 2, 8} {
					for _, p := range [][]api.Ins{append(many(n), x), append([]api.Ins{x}, many(n)...)} {
						wantCheck(t, p, slowCheck(p))
					}
				}
				wantCheck(t, append(many(codes-1), x), slowCheck(append(many(codes-1), x)))
			}
		}
	}
}

func TestTooManyInstructions(t *testing.T) {
	for _, n := range []int{codes + 1, codes + 2, 2 * codes, 70000} {
		// Ahead of what is told of their form.
		for _, p := range [][]api.Ins{many(n), make([]api.Ins, n), append([]api.Ins{{Code: 12}}, many(n-1)...)} {
			wantCheck(t, p, api.ErrLarge)
			wantNoRun(t, p, vm.New(), nil, 1, api.ErrLarge)
		}
	}
}

func TestNew(t *testing.T) {
	v := vm.New()
	if !same(v, at(0, 0, 0, 0, 0, 0, 0, 0, 0)) {
		t.Errorf("New() = %v", v)
	}
	wantRight(t, v, api.OK)
}

func TestRight(t *testing.T) {
	for _, v := range []api.Vm{
		at(0), at(1, 1), at(codes), at(codes-1, least, most), at(9, 0, 1, 2, 3, 4, 5, 6, most), at(9, 0, 1, 2, 3, 4, 5, 6, least),
		halted(at(3, 1)), faulty(at(3, 1)), halted(at(codes)), faulty(at(codes)), halted(at(0)), faulty(at(0)),
	} {
		wantRight(t, v, api.OK)
	}
	for _, v := range []api.Vm{{}, {Regs: make([]int, regs-1)}, {Regs: make([]int, regs+1)}, {Regs: []int{0}}, halted(faulty(at(0)))} {
		wantRight(t, v, api.ErrForm)
	}
	for _, x := range edges {
		want := api.OK
		if !within(x, 0, codes) {
			want = api.ErrForm
		}
		for _, v := range []api.Vm{at(x), halted(at(x)), faulty(at(x, most))} {
			wantRight(t, v, want)
		}
		for i := range regs {
			v := at(codes)
			v.Regs[i] = x
			want = api.OK
			if !within(x, least, most) {
				want = api.ErrForm
			}
			wantRight(t, v, want)
		}
	}
	for n := range 3 * regs {
		want := api.ErrForm
		if n == regs {
			want = api.OK
		}
		wantRight(t, api.Vm{Regs: make([]int, n)}, want)
		wantRight(t, halted(api.Vm{Regs: make([]int, n, 99)}), want)
	}
}

// P11.2

func TestRun(t *testing.T) {
	// Tells the sum of each two numbers that come in.
	p := []api.Ins{in(0), in(1), add(0, 1), out(0, 2), jump(0)}
	wantRun(t, p, vm.New(), []int{1, 2, 3, 4, 5}, 100,
		told{at(1, 5, 4), []api.Emit{{Port: 2, N: 3}, {Port: 2, N: 7}}, 5, 11})
	wantRun(t, p, vm.New(), []int{1, 2, 3, 4, 5}, 5, told{at(0, 3, 2), []api.Emit{{Port: 2, N: 3}}, 2, 5})
	wantRun(t, p, vm.New(), []int{1, 2, 3, 4, 5}, 3, told{at(3, 3, 2), nil, 2, 3})
	wantRun(t, p, at(1, 5, 4), []int{6}, 100, told{at(0, 11, 6), []api.Emit{{Port: 2, N: 11}}, 1, 4})
	// It goes on at At, with what is in the registers.
	wantRun(t, []api.Ins{halt, out(7, 0), halt}, at(1, 0, 0, 0, 0, 0, 0, 0, -9), nil, 9,
		told{halted(at(2, 0, 0, 0, 0, 0, 0, 0, -9)), []api.Emit{{Port: 0, N: -9}}, 0, 2})
	// What goes out does so in order, whatever ports it goes out at.
	wantRun(t, []api.Ins{out(0, 3), out(1, 0), out(0, 3), out(2, 1)}, at(0, 5, 6, 7), nil, 4,
		told{at(4, 5, 6, 7), []api.Emit{{Port: 3, N: 5}, {Port: 0, N: 6}, {Port: 3, N: 5}, {Port: 1, N: 7}}, 0, 4})
}

func TestFuel(t *testing.T) {
	p := []api.Ins{set(0, 1), add(1, 0), halt}
	for fuel, want := range []told{
		{v: at(0)}, {v: at(1, 1), used: 1}, {v: at(2, 1, 1), used: 2}, {v: halted(at(2, 1, 1)), used: 3}, {v: halted(at(2, 1, 1)), used: 3},
	} {
		wantRun(t, p, vm.New(), nil, fuel, want)
	}
	p = p[:2]
	for fuel, want := range []told{
		{v: at(0)}, {v: at(1, 1), used: 1}, {v: at(2, 1, 1), used: 2}, {v: faulty(at(2, 1, 1)), used: 3}, {v: faulty(at(2, 1, 1)), used: 3},
	} {
		wantRun(t, p, vm.New(), nil, fuel, want)
	}
	// One that never ends uses all of it.
	for _, fuel := range []int{0, 1, 2, 99, fuels - 1, fuels} {
		wantRun(t, []api.Ins{jump(0)}, vm.New(), nil, fuel, told{v: at(0), used: fuel})
		wantAsSlow(t, many(codes), at(7, 3, 5), nil, fuel)
		wantAsSlow(t, []api.Ins{out(0, 1), jump(0)}, vm.New(), nil, fuel)
	}
}

// Who Halts, or had a Fault, does nothing any more.
func TestIsOver(t *testing.T) {
	p := []api.Ins{in(0), set(1, 5), out(1, 1), halt}
	for n := range len(p) + 1 {
		for _, v := range []api.Vm{halted(at(n, 4)), faulty(at(n, 4))} {
			for _, fuel := range []int{0, 1, 2, fuels} {
				wantRun(t, p, v, []int{1, 2}, fuel, told{v: v})
			}
		}
	}
	for _, v := range []api.Vm{halted(at(0, 4)), faulty(at(0, 4))} {
		wantRun(t, nil, v, []int{1, 2}, fuels, told{v: v})
	}
}

func TestNoNumberIsLeft(t *testing.T) {
	for _, l := range [][]int{nil, {}} {
		wantRun(t, []api.Ins{in(3)}, at(0, 1, 2, 3, 4), l, 9, told{v: at(0, 1, 2, 3, 4)})
		wantRun(t, []api.Ins{set(0, 1), in(3), halt}, vm.New(), l, 9, told{v: at(1, 1), used: 1})
		wantRun(t, []api.Ins{set(0, 1), in(3), halt}, vm.New(), l, 1, told{v: at(1, 1), used: 1})
	}
	p := []api.Ins{in(0), jump(0)}
	for _, n := range []int{1, 2, 3, 2499, 2500} {
		l := slices.Repeat([]int{5}, n)
		wantRun(t, p, vm.New(), l, fuels, told{v: at(0, 5), took: n, used: 2 * n})
		wantRun(t, p, vm.New(), l, 2*n-1, told{v: at(1, 5), took: n, used: 2*n - 1})
	}
	// Not more is taken than there is fuel for.
	wantRun(t, []api.Ins{in(0), in(1), in(2)}, vm.New(), []int{7, 8, 9}, 2, told{v: at(2, 7, 8), took: 2, used: 2})
	// As many as may come in.
	l := make([]int, numbers)
	for i := range l {
		l[i] = i
	}
	wantAsSlow(t, slices.Repeat([]api.Ins{in(0)}, codes), vm.New(), l, fuels)
	wantAsSlow(t, p, vm.New(), l, fuels)
	wantRun(t, []api.Ins{halt}, vm.New(), l, fuels, told{v: halted(at(0)), used: 1})
}

func TestNoFurtherInstruction(t *testing.T) {
	for _, p := range [][]api.Ins{nil, {}} {
		wantRun(t, p, vm.New(), []int{1}, 0, told{v: at(0)})
		wantRun(t, p, at(0, 9), []int{1}, 1, told{v: faulty(at(0, 9)), used: 1})
		wantRun(t, p, at(0, 9), []int{1}, fuels, told{v: faulty(at(0, 9)), used: 1})
	}
	wantRun(t, []api.Ins{jump(2), halt}, vm.New(), nil, 1, told{v: at(2), used: 1})
	wantRun(t, []api.Ins{jump(2), halt}, vm.New(), nil, 2, told{v: faulty(at(2)), used: 2})
	wantRun(t, []api.Ins{zero(1, 2), halt}, vm.New(), nil, 9, told{v: faulty(at(2)), used: 2})
	wantRun(t, []api.Ins{less(1, 2), halt}, at(0, 0, -1), nil, 9, told{v: faulty(at(2, 0, -1)), used: 2})
	wantRun(t, many(codes), at(codes), nil, 9, told{v: faulty(at(codes)), used: 1})
	wantRun(t, slices.Repeat([]api.Ins{jump(codes)}, codes), vm.New(), nil, 9, told{v: faulty(at(codes)), used: 2})
}

func TestNoRun(t *testing.T) {
	good, long := []api.Ins{in(0), jump(0)}, make([]int, numbers+1)
	for _, x := range edges {
		if !within(x, 0, fuels) {
			wantNoRun(t, good, vm.New(), []int{1}, x, api.ErrArg)
			wantNoRun(t, nil, halted(vm.New()), nil, x, api.ErrArg)
		}
		if !within(x, 0, len(good)) {
			wantNoRun(t, good, at(x), []int{1}, 1, api.ErrForm)
			wantNoRun(t, good, halted(at(x)), nil, 0, api.ErrForm)
		}
		if !within(x, least, most) {
			// Wherever it stands, also where it would never be taken.
			for _, l := range [][]int{{x}, {x, 1, 1}, {1, x, 1}, {1, 1, x}} {
				wantNoRun(t, good, vm.New(), l, 9, api.ErrForm)
				wantNoRun(t, good, vm.New(), l, 0, api.ErrForm)
				wantNoRun(t, []api.Ins{halt}, halted(vm.New()), l, 9, api.ErrForm)
			}
			wantNoRun(t, good, at(0, 1, x), []int{1}, 1, api.ErrForm)
		} else {
			wantAsSlow(t, good, vm.New(), []int{x, 1, x}, 3)
		}
	}
	wantNoRun(t, nil, at(1), nil, 1, api.ErrForm)
	wantNoRun(t, many(codes-1), at(codes), nil, 1, api.ErrForm)
	wantNoRun(t, good, api.Vm{}, nil, 1, api.ErrForm)
	wantNoRun(t, good, halted(faulty(at(0))), nil, 1, api.ErrForm)
	wantNoRun(t, good, vm.New(), long, 0, api.ErrLarge)
	wantNoRun(t, good, vm.New(), long, fuels, api.ErrLarge)
	wantNoRun(t, good, vm.New(), slices.Concat(long, long), 1, api.ErrLarge)
}

// What is told first is told, whatever is wrong behind it.
func TestOrderOfErrors(t *testing.T) {
	long := make([]int, numbers+1)
	longAndWrong := make([]int, numbers+1)
	longAndWrong[numbers] = most + 1
	for _, p := range [][]api.Ins{{halt}, {{}}, many(codes + 1)} {
		for _, v := range []api.Vm{at(0), at(2), {}, at(-1), faulty(halted(at(0)))} {
			for _, l := range [][]int{nil, {least - 1}, long, longAndWrong} {
				for _, fuel := range []int{-1, 0, fuels, fuels + 1} {
					right := vm.Right(v)
					want := api.OK
					switch {
					case len(p) > codes:
						want = api.ErrLarge
					case p[0].Code == 0, right != api.OK, v.At > 1, len(l) > 0 && (l[0] != 0 || l[len(l)-1] != 0):
						want = api.ErrForm
					case !within(fuel, 0, fuels):
						want = api.ErrArg
					case len(l) > numbers:
						want = api.ErrLarge
					}
					if want == api.OK {
						wantAsSlow(t, p, v, l, fuel)
					} else {
						wantNoRun(t, p, v, l, fuel, want)
					}
				}
			}
		}
	}
}

// P11.3

func TestInstructions(t *testing.T) {
	for _, c := range []struct {
		x    api.Ins
		v    api.Vm
		want told
	}{
		{set(2, -7), at(0, 1, 2, 3), told{v: at(1, 1, 2, -7)}},
		{set(0, least), at(0, 1), told{v: at(1, least)}},
		{set(7, most), at(0), told{v: at(1, 0, 0, 0, 0, 0, 0, 0, most)}},
		{cpy(2, 0), at(0, 1, 2, 3), told{v: at(1, 1, 2, 1)}},
		{cpy(1, 1), at(0, 1, 2, 3), told{v: at(1, 1, 2, 3)}},
		{add(0, 2), at(0, 1, 2, 3), told{v: at(1, 4, 2, 3)}},
		{add(0, 0), at(0, 5), told{v: at(1, 10)}},
		{sub(0, 2), at(0, 1, 2, 3), told{v: at(1, -2, 2, 3)}},
		{sub(2, 0), at(0, 1, 2, 3), told{v: at(1, 1, 2, 2)}},
		{sub(0, 0), at(0, least), told{v: at(1, 0)}},
		{mul(1, 2), at(0, 1, 2, 3), told{v: at(1, 1, 6, 3)}},
		{mul(1, 1), at(0, 1, -9), told{v: at(1, 1, 81)}},
		{mul(0, 1), at(0, -4, 5), told{v: at(1, -20, 5)}},
		{jump(0), at(0, 1), told{v: at(0, 1)}},
		{jump(1), at(0, 1), told{v: at(1, 1)}},
		{zero(1, 0), at(0, 1, 0), told{v: at(0, 1)}},
		{zero(0, 0), at(0, 1, 0), told{v: at(1, 1)}},
		{zero(0, 0), at(0, -1, 0), told{v: at(1, -1)}},
		{less(0, 0), at(0, -1), told{v: at(0, -1)}},
		{less(0, 0), at(0, least), told{v: at(0, least)}},
		{less(0, 0), at(0, 0), told{v: at(1, 0)}},
		{less(0, 0), at(0, 1), told{v: at(1, 1)}},
		{less(0, 0), at(0, most), told{v: at(1, most)}},
		{in(3), at(0, 1), told{v: at(1, 1, 0, 0, 44), took: 1}},
		{out(1, 3), at(0, 1, -6), told{v: at(1, 1, -6), out: []api.Emit{{Port: 3, N: -6}}}},
		{out(0, 0), at(0, least), told{v: at(1, least), out: []api.Emit{{Port: 0, N: least}}}},
		{halt, at(0, 1), told{v: halted(at(0, 1))}},
	} {
		c.want.used = 1
		wantRun(t, []api.Ins{c.x}, c.v, []int{44, 55}, 1, c.want)
	}
}

func TestGoesRound(t *testing.T) {
	for _, c := range []struct {
		x          api.Ins
		a, b, want int
	}{
		// The document's: 2^31 less 1, and 1, is -2^31.
		{add(0, 1), most, 1, least}, {add(0, 1), 1, most, least}, {add(0, 1), least, -1, most}, {add(0, 1), least, least, 0},
		{add(0, 1), most, most, -2}, {add(0, 1), most, least, -1}, {sub(0, 1), least, 1, most}, {sub(0, 1), most, -1, least},
		{sub(0, 1), 0, least, least}, {sub(0, 1), -1, least, most}, {sub(0, 1), least, most, 1}, {sub(0, 1), most, least, -1},
		{mul(0, 1), least, -1, least}, {mul(0, 1), least, least, 0}, {mul(0, 1), most, most, 1}, {mul(0, 1), most, least, least},
		{mul(0, 1), 1 << 16, 1 << 15, least}, {mul(0, 1), 1 << 16, 1 << 16, 0}, {mul(0, 1), 46341, 46341, -2147479015},
		{mul(0, 1), most, 2, -2}, {mul(0, 1), -65537, 65535, 1},
	} {
		wantRun(t, []api.Ins{c.x}, at(0, c.a, c.b), nil, 1, told{v: at(1, c.want, c.b), used: 1})
	}
	for _, a := range edges {
		for _, b := range edges {
			if within(a, least, most) && within(b, least, most) {
				for _, x := range []api.Ins{add(0, 1), add(1, 0), sub(0, 1), sub(1, 0), mul(0, 1), mul(1, 0), add(0, 0), mul(1, 1)} {
					wantAsSlow(t, []api.Ins{x}, at(0, a, b), nil, 1)
				}
			}
		}
	}
}

// All programs of up to three instructions of a few, with all fuels that can tell.
func TestAllSmallPrograms(t *testing.T) {
	few := []api.Ins{
		set(0, -1), set(1, 1), cpy(0, 1), add(0, 1), sub(1, 0), mul(0, 0), jump(0), jump(1), zero(0, 0), zero(1, 2), less(0, 1),
		less(1, 3), in(0), in(1), out(0, 1), out(1, 0), halt,
	}
	var all func(p []api.Ins, more int)
	all = func(p []api.Ins, more int) {
		if vm.Check(p) == api.OK {
			for fuel := range 7 {
				wantAsSlow(t, p, vm.New(), []int{0, 2}, fuel)
			}
			wantAsSlow(t, p, at(len(p)/2, 2, -1), []int{most}, 30)
		}
		for _, x := range few {
			if more > 0 {
				all(append(slices.Clone(p), x), more-1)
			}
		}
	}
	all(nil, 3)
}

func randomNumber(source *rand.Rand) int {
	switch source.Intn(3) {
	case 0:
		return source.Intn(7) - 3
	case 1:
		return least + source.Intn(4) + source.Intn(2)*(most-least-3)
	}
	return int(int32(source.Uint32()))
}

func randomNumbers(source *rand.Rand, n int) []int {
	var l []int
	for range n {
		l = append(l, randomNumber(source))
	}
	return l
}

func randomProgram(source *rand.Rand, n int) []api.Ins {
	var p []api.Ins
	for range n {
		x := api.Ins{Code: 1 + source.Intn(10), A: source.Intn(regs), B: source.Intn(regs)}
		switch x.Code {
		case api.ISet:
			x.B = randomNumber(source)
		case api.IJump:
			x.A, x.B = 0, source.Intn(n+1)
		case api.IZero, api.ILess:
			x.B = source.Intn(n + 1)
		case api.IIn:
			x.B = 0
		case api.IOut:
			x.B = source.Intn(ports)
		}
		if source.Intn(40) == 0 {
			x = halt
		}
		p = append(p, x)
	}
	return p
}

func TestRandomPrograms(t *testing.T) {
	source := rand.New(rand.NewSource(1))
	for range 3000 {
		p := randomProgram(source, source.Intn(codes+1))
		v := at(source.Intn(len(p)+1), randomNumbers(source, regs)...)
		wantAsSlow(t, p, v, randomNumbers(source, source.Intn(60)), source.Intn(600))
	}
}

// Whoever goes on with what was told is where one that never stopped would be.
func TestRunInPieces(t *testing.T) {
	source := rand.New(rand.NewSource(2))
	for range 1000 {
		p := randomProgram(source, 1+source.Intn(30))
		l := randomNumbers(source, 20)
		v := at(source.Intn(len(p)+1), randomNumbers(source, regs)...)
		fuel := source.Intn(100)
		got := told{v: v}
		for left := fuel; left > 0; {
			piece := min(left, 1+source.Intn(3))
			next, e := run(p, got.v, l[got.took:], piece)
			if e != api.OK || vm.Right(next.v) != api.OK || next.v.At > len(p) {
				t.Fatalf("Run(%v, %v) = %v, %v", p, got.v, next, e)
			}
			got = told{next.v, append(got.out, next.out...), got.took + next.took, got.used + next.used}
			left -= piece
		}
		wantRun(t, p, v, l, fuel, got)
	}
}

// P1

func TestAllCallsAnswer(t *testing.T) {
	for _, a := range edges {
		for _, b := range edges {
			for _, c := range edges {
				p := []api.Ins{{Code: a, A: b, B: c}}
				for _, v := range []api.Vm{{}, {At: a}, {At: b, Regs: []int{c}}, at(c), at(0, a, b, c), halted(at(b, a))} {
					vm.Right(v)
					vm.Run(p, v, []int{a, b}, c)
					vm.Run(many(5), v, []int{a, b}, c)
				}
				vm.Run(p, at(1), nil, 2)
				vm.Run(nil, at(a), nil, b)
			}
		}
	}
}

// P2

// behind tells l with more behind its end, that is none of it.
func behind[T any](l []T, x T) []T {
	return slices.Concat(l, slices.Repeat([]T{x}, 20))[:len(l)]
}

func spoil[T any](l []T, x T) {
	l = l[:cap(l)]
	for i := range l {
		l[i] = x
	}
}

func whole[T any](l []T) []T { return slices.Clone(l[:cap(l)]) }

func TestMemory(t *testing.T) {
	source := rand.New(rand.NewSource(3))
	for i := range 300 {
		p := behind(randomProgram(source, 12), halt)
		v := at(0, randomNumbers(source, regs)...)
		v.Regs = behind(v.Regs, 77)
		v.Halts = i%10 == 0
		l := behind(randomNumbers(source, 9), 78)
		fuel := source.Intn(50)
		wasP, wasRegs, wasL := whole(p), whole(v.Regs), whole(l)
		first, _ := run(p, v, l, fuel)
		second, _ := run(p, v, l, fuel)
		hadRegs, hadOut := slices.Clone(second.v.Regs), slices.Clone(second.out)
		// Whoever fills what is answered, its spare room included, changes nothing that is handed in or answered elsewhere.
		spoil(first.v.Regs, 79)
		if !slices.Equal(first.out, hadOut) {
			t.Errorf("two lists of an answer of Run(%v) share memory", p)
		}
		spoil(first.out, api.Emit{Port: 9, N: 9})
		vm.Check(p)
		vm.Right(v)
		if !slices.Equal(whole(p), wasP) || !slices.Equal(whole(v.Regs), wasRegs) || !slices.Equal(whole(l), wasL) {
			t.Errorf("what is handed in to Run(%v) is changed", p)
		}
		third, _ := run(p, v, l, fuel)
		if !isSame(third, second) {
			t.Errorf("Run(%v) keeps something", p)
		}
		// What was answered stays as it was, whatever becomes of what was handed in.
		spoil(p, api.Ins{})
		spoil(v.Regs, 80)
		spoil(l, 81)
		if !slices.Equal(second.v.Regs, hadRegs) || !slices.Equal(second.out, hadOut) {
			t.Errorf("an answer of Run(%v) is changed", wasP)
		}
	}
}

func TestMemoryOfNew(t *testing.T) {
	spoil(vm.New().Regs, 5)
	if v := vm.New(); !same(v, at(0)) {
		t.Errorf("New() = %v behind another one", v)
	}
}
