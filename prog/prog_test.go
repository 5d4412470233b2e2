package prog_test

import (
	"fmt"
	"math"
	"math/rand"
	"regexp"
	"slices"
	"strconv"
	"strings"
	"testing"

	"dutyroster/api"
	"dutyroster/prog"
	"dutyroster/vm"
)

const (
	least = math.MinInt32
	most  = math.MaxInt32
	codes = api.MaxCode
	regs  = api.MaxRegs
	ports = api.MaxPorts
	bytes = 10000 // of a text
)

// edges stand on both sides of each bound that the chapter names, and at the ends of an int.
var edges = []int{
	math.MinInt, math.MinInt + 1, -api.MaxNum, least - 1, least, least + 1, -12, -1, 0, 1, 2, 3, 4, 5, 6, 7, 8, 9, 10, 11, 12,
	codes - 1, codes, codes + 1, most - 1, most, most + 1, api.MaxNum, math.MaxInt - 1, math.MaxInt,
}

var halt = api.Ins{Code: api.IHalt}

// one tells a program of one instruction.
func one(code, a, b int) []api.Ins { return []api.Ins{{Code: code, A: a, B: b}} }

// slowPrint is for a program that vm.Check takes.
func slowPrint(p []api.Ins) string {
	s := ""
	for _, x := range p {
		s += fmt.Sprintln(map[int][]any{
			api.ISet:  {"set", fmt.Sprintf("r%d", x.A), x.B},
			api.ICopy: {"copy", fmt.Sprintf("r%d", x.A), fmt.Sprintf("r%d", x.B)},
			api.IAdd:  {"add", fmt.Sprintf("r%d", x.A), fmt.Sprintf("r%d", x.B)},
			api.ISub:  {"sub", fmt.Sprintf("r%d", x.A), fmt.Sprintf("r%d", x.B)},
			api.IMul:  {"mul", fmt.Sprintf("r%d", x.A), fmt.Sprintf("r%d", x.B)},
			api.IJump: {"jump", x.B},
			api.IZero: {"zero", fmt.Sprintf("r%d", x.A), x.B},
			api.ILess: {"less", fmt.Sprintf("r%d", x.A), x.B},
			api.IIn:   {"in", fmt.Sprintf("r%d", x.A)},
			api.IOut:  {"out", fmt.Sprintf("r%d", x.A), x.B},
			api.IHalt: {"halt"},
		}[x.Code]...)
	}
	return s
}

// grammar has a rule for each shape of a line. Of each the groups are the word, A and B, as far as there are some.
var grammar = []*regexp.Regexp{
	regexp.MustCompile(`^(set) r([0-7]) (0|-?[1-9][0-9]{0,9})$`),
	regexp.MustCompile(`^(copy|add|sub|mul) r([0-7]) r([0-7])$`),
	regexp.MustCompile(`^(jump)() (0|[1-9][0-9]?|100)$`),
	regexp.MustCompile(`^(zero|less) r([0-7]) (0|[1-9][0-9]?|100)$`),
	regexp.MustCompile(`^(in) r([0-7])()$`),
	regexp.MustCompile(`^(out) r([0-7]) ([0-3])$`),
	regexp.MustCompile(`^(halt)()()$`),
}

var codeOf = map[string]int{"set": 1, "copy": 2, "add": 3, "sub": 4, "mul": 5, "jump": 6, "zero": 7, "less": 8, "in": 9, "out": 10, "halt": 11}

// slowLine is for a line with one blank between its words.
func slowLine(s string) (api.Ins, bool) {
	for _, rule := range grammar {
		if m := rule.FindStringSubmatch(s); m != nil {
			a, _ := strconv.Atoi(m[2])
			b, _ := strconv.Atoi(m[3])
			return api.Ins{Code: codeOf[m[1]], A: a, B: b}, least <= b && b <= most
		}
	}
	return api.Ins{}, false
}

func slowParse(s string) ([]api.Ins, int, api.Errno) {
	if len(s) > bytes {
		return nil, 0, api.ErrLarge
	}
	var p []api.Ins
	line, n, note := "", 0, false
	for i := range len(s) + 1 {
		if i < len(s) && s[i] != 10 {
			note = note || s[i] == ';'
			// A blank at the beginning, and one behind another one, parts no words.
			if !note && (s[i] != 32 || line != "" && line[len(line)-1] != 32) {
				line += s[i : i+1]
			}
			continue
		}
		if line = strings.TrimSuffix(line, " "); line != "" {
			x, ok := slowLine(line)
			if !ok {
				return nil, n, api.ErrSyntax
			}
			p = append(p, x)
		}
		line, note = "", false
		n++
	}
	if len(p) > codes {
		return nil, 0, api.ErrLarge
	}
	for _, x := range p {
		if (x.Code == api.IJump || x.Code == api.IZero || x.Code == api.ILess) && x.B > len(p) {
			return nil, 0, api.ErrForm
		}
	}
	return p, 0, api.OK
}

func wantPrint(t *testing.T, p []api.Ins, want string) {
	t.Helper()
	if s, e := prog.Print(p); s != want || e != api.OK {
		t.Errorf("Print(%v) = %q, %v; want %q", p, s, e, want)
	}
}

func wantNoPrint(t *testing.T, p []api.Ins, want api.Errno) {
	t.Helper()
	if s, e := prog.Print(p); s != "" || e != want {
		t.Errorf("Print(%v) = %q, %v; want error %v", p, s, e, want)
	}
}

func wantParse(t *testing.T, s string, want ...api.Ins) {
	t.Helper()
	if p, n, e := prog.Parse(s); !slices.Equal(p, want) || n != 0 || e != api.OK {
		t.Errorf("Parse(%q) = %v, %v, %v; want %v", s, p, n, e, want)
	}
}

func wantNoParse(t *testing.T, s string, line int, want api.Errno) {
	t.Helper()
	if p, n, e := prog.Parse(s); len(p) != 0 || n != line || e != want {
		t.Errorf("Parse(%q) = %v, %v, %v; want error %v, and line %v", s, p, n, e, want, line)
	}
}

func wantAsSlow(t *testing.T, s string) {
	t.Helper()
	wantP, wantN, wantE := slowParse(s)
	if p, n, e := prog.Parse(s); !slices.Equal(p, wantP) || n != wantN || e != wantE {
		t.Errorf("Parse(%q) = %v, %v, %v; want %v, %v, %v", s, p, n, e, wantP, wantN, wantE)
	}
}

// P12.1

func TestPrint(t *testing.T) {
	wantPrint(t, nil, "")
	wantPrint(t, []api.Ins{}, "")
	wantPrint(t, []api.Ins{halt, {Code: api.IIn, A: 3}, halt}, "halt\nin r3\nhalt\n")
	for _, c := range []struct {
		x    api.Ins
		want string
	}{
		{api.Ins{Code: api.ISet, A: 0, B: 0}, "set r0 0"},
		{api.Ins{Code: api.ISet, A: 7, B: 10}, "set r7 10"},
		{api.Ins{Code: api.ISet, A: 1, B: -1}, "set r1 -1"},
		{api.Ins{Code: api.ISet, A: 1, B: least}, "set r1 -2147483648"},
		{api.Ins{Code: api.ISet, A: 1, B: most}, "set r1 2147483647"},
		{api.Ins{Code: api.ICopy, A: 1, B: 2}, "copy r1 r2"},
		{api.Ins{Code: api.IAdd, A: 7, B: 0}, "add r7 r0"},
		{api.Ins{Code: api.ISub, A: 0, B: 7}, "sub r0 r7"},
		{api.Ins{Code: api.IMul, A: 3, B: 3}, "mul r3 r3"},
		{api.Ins{Code: api.IJump, B: 0}, "jump 0"},
		{api.Ins{Code: api.IJump, B: 1}, "jump 1"},
		{api.Ins{Code: api.IZero, A: 5, B: 1}, "zero r5 1"},
		{api.Ins{Code: api.ILess, A: 6, B: 0}, "less r6 0"},
		{api.Ins{Code: api.IIn, A: 7}, "in r7"},
		{api.Ins{Code: api.IOut, A: 0, B: 3}, "out r0 3"},
		{halt, "halt"},
	} {
		wantPrint(t, []api.Ins{c.x}, c.want+"\n")
	}
	wantPrint(t, slices.Repeat(one(api.IJump, 0, codes), codes), strings.Repeat("jump 100\n", codes))
}

func TestPrintOfAllEdges(t *testing.T) {
	for _, code := range edges {
		for _, a := range edges {
			for _, b := range edges {
				for _, n := range []int{1, 12, codes} {
					p := slices.Repeat([]api.Ins{{Code: code, A: a, B: b}}, n)
					if e := vm.Check(p); e != api.OK {
						wantNoPrint(t, p, e)
						continue
					}
					s := slowPrint(p)
					wantPrint(t, p, s)
					wantParse(t, s, p...)
				}
			}
		}
	}
}

func TestNoPrint(t *testing.T) {
	wantNoPrint(t, slices.Repeat([]api.Ins{halt}, codes+1), api.ErrLarge)
	wantNoPrint(t, slices.Repeat(one(0, 0, 0), codes+1), api.ErrLarge)
	for _, x := range []api.Ins{
		{}, {Code: -1}, {Code: 12}, {Code: api.IHalt, A: 1}, {Code: api.IHalt, B: 1}, {Code: api.IJump, A: 1}, {Code: api.IJump, B: 3},
		{Code: api.ISet, B: most + 1}, {Code: api.IIn, A: 8}, {Code: api.IIn, B: 1}, {Code: api.IOut, B: 4}, {Code: api.IAdd, B: -1},
	} {
		wantNoPrint(t, []api.Ins{halt, x}, api.ErrForm)
		wantNoPrint(t, []api.Ins{x, halt}, api.ErrForm)
	}
}

// P12.2

func TestParse(t *testing.T) {
	set := api.Ins{Code: api.ISet, A: 2, B: -7}
	in := api.Ins{Code: api.IIn, A: 0}
	for _, s := range []string{"", "\n", "\n\n\n", " ", "   \n  ", ";", ";;", "; halt", " ;frob\n; \x00\xff", "\n;\n"} {
		wantParse(t, s)
	}
	for _, s := range []string{
		"set r2 -7", "set r2 -7\n", " set r2 -7", "set r2 -7 ", "  set   r2     -7  ", "set r2 -7;", "set r2 -7 ; frob", "set r2 -7;;", "set r2 -7;\n",
		"\n\nset r2 -7\n\n", ";x\n \nset r2 -7;set r2 8", "set r2 -7;\r", "set r2 -7;\t\xff\x80",
	} {
		wantParse(t, s, set)
	}
	for _, s := range []string{"set r2 -7\nin r0\nhalt", "set r2 -7\nin r0\nhalt\n", "set r2 -7;\n\n;halt\n  in r0\n \nhalt;"} {
		wantParse(t, s, set, in, halt)
	}
	// A jump behind all of them, and one to the last one there may be.
	wantParse(t, "jump 1", one(api.IJump, 0, 1)...)
	wantParse(t, "jump 100\n"+strings.Repeat("halt\n", codes-1), append(one(api.IJump, 0, codes), slices.Repeat([]api.Ins{halt}, codes-1)...)...)
}

func TestSyntax(t *testing.T) {
	for _, s := range []string{
		// No word that is one.
		"frob", "Halt", "HALT", "hal", "halts", "stop", "0", "r0", "-", ":", "#", "\\", "set:", "\x00", "\xff", "hal\xff", "\u00a0", "é",
		// Blanks are bytes 32, and nothing else is.
		"halt\r", "\thalt", "halt\t", "in\tr0", "\r", "\t", "\v", "\f", "in\u00a0r0", "in\x00r0", "halt\x00",
		// Too few words, and too many.
		"set", "set r0", "set 1", "set r0 1 2", "set r0 1 r2", "copy", "copy r0", "add r0 r1 r2", "sub r1", "mul r0 r0 0", "jump", "jump 0 0", "jump r0 0",
		"zero", "zero 0", "zero r0", "zero r0 0 0", "less r0", "less r0 0 0", "in", "in r0 0", "in r0 r0", "out", "out r0", "out 0", "out r0 0 0", "halt 0",
		"halt r0", "halt r0 0", "halt halt", "halt in r0", "in r0 halt",
		// Words of another shape.
		"set 1 1", "set r1 r1", "set 1 r1", "copy r1 1", "copy 1 r1", "add 1 1", "sub r1 2", "mul 0 0", "jump r1", "jump rr", "zero r1 r0", "zero 1 0", "less 1 1",
		"in 0", "in r", "in -", "out r0 r0", "out 0 0", "in rr0", "in rr", "in R0", "in 0r", "in r0r", "in x0", "in r 0", "set r0 - 1",
		// Out of bounds.
		"set r8 0", "set r-1 0", "set r0 2147483648", "set r0 -2147483649", "set r0 9223372036854775807", "set r0 9223372036854775808", "set r0 4294967296",
		"set r0 18446744073709551616", "set r0 99999999999999999999999", "set r0 -99999999999999999999999", "set r10 0", "copy r0 r8", "add r8 r0", "sub r0 r-1",
		"mul r9 r0", "jump 101", "jump -1", "jump 4294967296", "jump 18446744073709551616", "zero r0 101", "zero r8 0", "zero r0 -1", "less r0 101", "less r8 0",
		"less r0 -1", "in r8", "in r-1", "in r18446744073709551616", "out r0 4", "out r0 -1", "out r8 0",
		// Numbers with more than they have to have.
		"set r0 00", "set r0 01", "set r0 -0", "set r0 -01", "set r0 --1", "set r0 +1", "set r0 +0", "set r0 1_0", "set r0 0x1", "set r0 1.0", "set r0 1e1", "set r0 0b1",
		"set r0 1,", "set r00 0", "set r01 0", "set r+0 0", "set r-0 0", "copy r0 r00", "jump 00", "jump +1", "jump -0", "zero r0 00", "less r0 01", "in r00", "in r-0",
		"out r0 00", "out r0 -0", "out r0 +1", "set r0 １", "set r0 '1'",
		// Not one line.
		"set\nr0 1", "set r0\n1", "set r0 ; 1", "set; r0 1", "in r;0",
	} {
		wantNoParse(t, s, 0, api.ErrSyntax)
		wantAsSlow(t, s)
	}
}

func TestLineOfSyntax(t *testing.T) {
	for line, s := range []string{"frob", "\nfrob", ";\n\nfrob\n", "halt\n;halt\n\n frob ;", " \nin r0\n\n;\nin\n"} {
		wantNoParse(t, s, line, api.ErrSyntax)
		wantNoParse(t, s+"\nhalt\nfrob", line, api.ErrSyntax)
	}
	wantNoParse(t, strings.Repeat("\n", bytes-1)+"x", bytes-1, api.ErrSyntax)
}

// jumps tells a text of n jumps to such a place.
func jumps(n, to int) string { return strings.Repeat(fmt.Sprintf("jump %d\n", to), n) }

func TestNoSuchPlace(t *testing.T) {
	for _, words := range []string{"jump", "zero r0", "less r7"} {
		for n := 1; n <= codes; n++ {
			ahead := strings.Repeat("halt\n", n-1) + words + " "
			wantAsSlow(t, ahead+strconv.Itoa(n-1))
			wantAsSlow(t, ahead+strconv.Itoa(n))
			if n < codes {
				wantNoParse(t, ahead+strconv.Itoa(n+1), 0, api.ErrForm)
				wantNoParse(t, ahead+strconv.Itoa(codes), 0, api.ErrForm)
			}
			wantNoParse(t, ahead+strconv.Itoa(codes+1), n-1, api.ErrSyntax)
			wantNoParse(t, ahead+"-1", n-1, api.ErrSyntax)
		}
	}
}

func TestTooManyInstructions(t *testing.T) {
	wantParse(t, strings.Repeat("halt\n", codes), slices.Repeat([]api.Ins{halt}, codes)...)
	wantParse(t, strings.Repeat("halt\n\n ; \n", codes), slices.Repeat([]api.Ins{halt}, codes)...)
	wantNoParse(t, strings.Repeat("halt\n", codes)+"halt", 0, api.ErrLarge)
	wantNoParse(t, strings.Repeat("halt\n", 2000), 0, api.ErrLarge)
	wantParse(t, strings.Repeat("\n", bytes))
}

func TestTooLong(t *testing.T) {
	text := "halt;" + strings.Repeat("x", bytes-5)
	wantParse(t, text, halt)
	wantNoParse(t, text+"x", 0, api.ErrLarge)
	wantNoParse(t, strings.Repeat(" ", bytes+1), 0, api.ErrLarge)
	wantParse(t, strings.Repeat(" ", bytes))
	wantNoParse(t, strings.Repeat("7", bytes), 0, api.ErrSyntax)
	wantNoParse(t, "set r0 "+strings.Repeat("7", bytes-7), 0, api.ErrSyntax)
	wantParse(t, strings.Repeat(" ", bytes-11)+"set r0 1234", one(api.ISet, 0, 1234)...)
	// Signs of more than one byte count by their bytes.
	wantNoParse(t, ";"+strings.Repeat("é", bytes/2), 0, api.ErrLarge)
	wantParse(t, ";"+strings.Repeat("é", bytes/2-1))
}

func TestOrderOfErrors(t *testing.T) {
	// Too long a text, a line that can't be read, too many instructions, what vm.Check tells: each one ahead of those behind it.
	long := strings.Repeat(" ", bytes)
	wantNoParse(t, "frob"+long, 0, api.ErrLarge)
	wantNoParse(t, "\nfrob\n"+long, 0, api.ErrLarge)
	wantNoParse(t, "jump 2"+long, 0, api.ErrLarge)
	wantNoParse(t, jumps(codes+1, 0)+"frob", codes+1, api.ErrSyntax)
	wantNoParse(t, "jump 100\nfrob\njump 101", 1, api.ErrSyntax)
	wantNoParse(t, jumps(codes+1, codes), 0, api.ErrLarge)
	wantNoParse(t, jumps(codes-1, codes), 0, api.ErrForm)
	wantNoParse(t, jumps(codes+1, codes+1), 0, api.ErrSyntax)
}

// All texts of a few pieces.
func TestAllSmallTexts(t *testing.T) {
	pieces := []string{"halt", "in", "jump", "set", "sub", "r0", "r8", "r", "0", "1", "-", " ", ";", "\n"}
	var all func(s string, n int)
	all = func(s string, n int) {
		wantAsSlow(t, s)
		if n == 0 {
			return
		}
		for _, piece := range pieces {
			all(s+piece, n-1)
		}
	}
	all("", 4)
	// With a blank between them.
	all = func(s string, n int) {
		wantAsSlow(t, s)
		if n == 0 {
			return
		}
		for _, piece := range pieces {
			all(s+piece+" ", n-1)
		}
	}
	all("", 4)
}

func randomNumber(source *rand.Rand) int {
	if source.Intn(2) == 0 {
		return source.Intn(21) - 10
	}
	return int(int32(source.Uint32()))
}

func randomProgram(source *rand.Rand, n int) []api.Ins {
	var p []api.Ins
	for range n {
		a, b := source.Intn(regs), source.Intn(regs)
		to := source.Intn(n + 1)
		p = append(p, []api.Ins{
			{Code: api.ISet, A: a, B: randomNumber(source)}, {Code: api.ICopy, A: a, B: b}, {Code: api.IAdd, A: a, B: b}, {Code: api.ISub, A: a, B: b},
			{Code: api.IMul, A: a, B: b}, {Code: api.IJump, B: to}, {Code: api.IZero, A: a, B: to}, {Code: api.ILess, A: a, B: to}, {Code: api.IIn, A: a},
			{Code: api.IOut, A: a, B: b % ports}, halt,
		}[source.Intn(11)])
	}
	return p
}

func TestThereAndBack(t *testing.T) {
	source := rand.New(rand.NewSource(1))
	for range 2000 {
		p := randomProgram(source, source.Intn(codes+1))
		s := slowPrint(p)
		wantPrint(t, p, s)
		wantParse(t, s, p...)
		wantParse(t, strings.TrimSuffix(s, "\n"), p...)
		wantParse(t, strings.ReplaceAll(strings.ReplaceAll(s, " ", "  "), "\n", " ;;halt\n\n"), p...)
	}
}

// Texts of programs, with a few bytes changed, left out or put in.
func TestRandomTexts(t *testing.T) {
	source := rand.New(rand.NewSource(2))
	signs := "  ;\n\nr01278-+9has\t\r\x00\xff"
	for range 60000 {
		s := slowPrint(randomProgram(source, source.Intn(6)))
		for range 1 + source.Intn(3) {
			at := source.Intn(len(s) + 1)
			sign := signs[source.Intn(len(signs))]
			rest := s[at:]
			if rest != "" && source.Intn(2) == 0 {
				rest = rest[1:]
			}
			if s = s[:at] + rest; source.Intn(3) > 0 {
				s = s[:at] + string([]byte{sign}) + rest
			}
		}
		wantAsSlow(t, s)
	}
}

// P1

func TestAllCallsAnswer(t *testing.T) {
	for _, a := range edges {
		for _, b := range edges {
			for _, c := range edges {
				prog.Print([]api.Ins{{Code: a, A: b, B: c}, {Code: c, A: a, B: b}})
			}
			prog.Print(slices.Repeat(one(a, b, 0), 1000))
		}
	}
	source := rand.New(rand.NewSource(3))
	for n := range 3000 {
		l := make([]byte, n*5)
		source.Read(l)
		prog.Parse(string(l))
		for i := range l {
			l[i] = "\n ;hr0"[l[i]%6]
		}
		prog.Parse(string(l))
	}
}

// P2

func TestMemory(t *testing.T) {
	source := rand.New(rand.NewSource(4))
	for range 300 {
		p := randomProgram(source, 12)
		spare := slices.Concat(p, slices.Repeat([]api.Ins{halt}, 20))
		s, _ := prog.Print(spare[:len(p)])
		first, _, _ := prog.Parse(s)
		second, _, _ := prog.Parse(s)
		if !slices.Equal(spare[:len(p)], p) || !slices.Equal(spare[len(p):], slices.Repeat([]api.Ins{halt}, 20)) {
			t.Errorf("what is handed in to Print(%v) is changed", p)
		}
		// Whoever fills what is answered, its spare room included, changes nothing that is answered elsewhere.
		first = first[:cap(first)]
		for i := range first {
			first[i] = api.Ins{Code: 99}
		}
		if !slices.Equal(second, p) {
			t.Errorf("two answers of Parse(%q) share memory", s)
		}
		wantParse(t, s, p...)
		wantPrint(t, p, s)
	}
}
