package tests

import (
	"math"
	"math/rand"
	"slices"
	"strconv"
	"strings"
	"testing"

	"loop.example/wovenprograms/impl"
)

// A wholeRun is all that is told of a run.
type wholeRun struct {
	outcome string
	points  string
	depth   int
}

// pointsText writes join points as `print in ` or `call b in ` and the stack, or the fields of one that is neither.
func pointsText(list []impl.JoinPoint) string {
	var parts []string
	for _, j := range list {
		switch {
		case j.Kind == "print" && j.Name == "":
			parts = append(parts, "print in "+j.Stack)
		case j.Kind == "call" && j.Name != "":
			parts = append(parts, "call "+j.Name+" in "+j.Stack)
		default:
			parts = append(parts, strconv.Quote(j.Kind)+strconv.Quote(j.Name)+strconv.Quote(j.Stack))
		}
	}
	return strings.Join(parts, ", ")
}

// runWhole asks every function that runs a program, and fails if one of them does not run it.
func runWhole(t *testing.T, w string, name string, value int) wholeRun {
	t.Helper()
	o, ok := impl.RunProgram(w, name, value)
	points, told := impl.JoinPointsOf(w, name, value)
	if !ok || !told {
		t.Fatalf("%q, %q, %d: RunProgram %v, JoinPointsOf %v, want a run", w, name, value, ok, told)
	}
	return wholeRun{impl.FormatOutcome(o), pointsText(points), impl.DepthOf(w, name, value)}
}

func checkRun(t *testing.T, w string, name string, value int, want wholeRun) {
	t.Helper()
	if got := runWhole(t, w, name, value); got != want {
		t.Errorf("%q, %q, %d: %+v, want %+v", w, name, value, got, want)
	}
}

func checkNoRun(t *testing.T, w string, name string, value int) {
	t.Helper()
	o, ok := impl.RunProgram(w, name, value)
	if ok || o.Value != 0 || len(o.Out) != 0 || o.End != "" || o.Steps != 0 {
		t.Errorf("RunProgram(%q, %q, %d) = %v, %v, want none", w, name, value, o, ok)
	}
	if points, ok := impl.JoinPointsOf(w, name, value); ok || len(points) != 0 {
		t.Errorf("JoinPointsOf(%q, %q, %d) = %v, %v, want none", w, name, value, points, ok)
	}
	if got := impl.DepthOf(w, name, value); got != -1 {
		t.Errorf("DepthOf(%q, %q, %d) = %d, want -1", w, name, value, got)
	}
}

func TestRunsInOrder(t *testing.T) {
	for _, c := range []struct {
		w     string
		name  string
		value int
		want  wholeRun
	}{
		{"a:+1Cb;b:?[P-1Cb][]", "a", 1, wholeRun{"0: 2 1 done 11", "call b in a, print in ab, call b in ab, print in abb, call b in abb", 4}},
		{"a:+1Cb;b:?[P-1Cb][]", "b", 1, wholeRun{"0: 1 done 5", "print in b, call b in b", 2}},
		{"a:+1Cb;b:?[P-1Cb][]", "b", -7, wholeRun{"-7: done 1", "", 1}},
		{"a:", "a", 7, wholeRun{"7: done 0", "", 1}},
		{"a:P;b:", "b", 7, wholeRun{"7: done 0", "", 1}},
		{"m:+2P*3P-9P", "m", 1, wholeRun{"0: 3 9 0 done 6", "print in m, print in m, print in m", 1}},
		// What is behind a call is done when the call has ended, in the procedure that called.
		{"a:CbPCcP;b:+1CcP;c:*2", "a", 1, wholeRun{"8: 4 4 8 done 9", "call b in a, call c in ab, print in ab, print in a, call c in a, print in a", 3}},
		{"a:CbCb;b:", "a", 0, wholeRun{"0: done 2", "call b in a, call b in a", 2}},
		// A procedure may be active more than once.
		{"x:?[-1CyP][];y:?[-1CxP][]", "x", 3, wholeRun{"0: 0 0 0 done 13", "call y in x, call x in xy, call y in xyx, print in xyx, print in xy, print in x", 4}},
	} {
		checkRun(t, c.w, c.name, c.value, c.want)
	}
}

func TestChoices(t *testing.T) {
	for _, c := range []struct {
		body  string
		value int
		want  string
	}{
		{"?[+1][+2]", 1, "2: done 2"},
		{"?[+1][+2]", 0, "2: done 2"},
		{"?[+1][+2]", -1, "1: done 2"},
		{"?[+1][+2]", 9999, "0: done 2"},
		{"?[+1][+2]", -9999, "-9997: done 2"},
		{"?[][P]", 1, "1: done 1"},
		{"?[P][]", 0, "0: done 1"},
		// The value as it is then chooses, and what a body makes of it does not choose again.
		{"-1?[P][]P", 1, "0: 0 done 3"},
		{"+1?[P][]P", 0, "1: 1 1 done 4"},
		{"?[*0P][+1P]P", 5, "0: 0 0 done 4"},
		{"?[*0P][+1P]P", 0, "1: 1 1 done 4"},
		{"?[-1?[P][*0-9P]][?[][+1?[P][]]]P", 2, "1: 1 1 done 5"},
		{"?[-1?[P][*0-9P]][?[][+1?[P][]]]P", 1, "-9: -9 -9 done 7"},
		{"?[-1?[P][*0-9P]][?[][+1?[P][]]]P", 0, "1: 1 1 done 6"},
	} {
		o, ok := impl.RunProgram("a:"+c.body, "a", c.value)
		if got := impl.FormatOutcome(o); got != c.want || !ok {
			t.Errorf("%q with %d: %q, %v, want %q", c.body, c.value, got, ok, c.want)
		}
	}
}

func TestRemainders(t *testing.T) {
	for _, c := range []struct {
		sign  string
		value int
		want  int
	}{
		{"+0", 9999, 9999}, {"+0", -9999, -9999}, {"+1", 9998, 9999}, {"+1", 9999, 0}, {"+9", 9999, 8}, {"+9", 9991, 0}, {"+9", 9990, 9999},
		{"-0", 9999, 9999}, {"-0", -9999, -9999}, {"-1", -9998, -9999}, {"-1", -9999, 0}, {"-9", -9999, -8}, {"-9", -9991, 0}, {"-9", -9990, -9999},
		{"+1", -1, 0}, {"+9", -5, 4}, {"-1", 0, -1}, {"-9", 5, -4}, {"-9", 9999, 9990}, {"+9", -9999, -9990},
		{"*0", 9999, 0}, {"*0", -9999, 0}, {"*1", 9999, 9999}, {"*1", -9999, -9999}, {"*2", 5000, 0}, {"*2", -5000, 0}, {"*2", 5001, 2}, {"*2", -5001, -2},
		{"*9", 9999, 9991}, {"*9", -9999, -9991}, {"*3", -3333, -9999}, {"*3", -3334, -2}, {"*9", -1111, -9999}, {"*9", -1112, -8},
	} {
		o, ok := impl.RunProgram("a:"+c.sign+"P", "a", c.value)
		if !ok || o.Value != c.want || !slices.Equal(o.Out, []int{c.want}) || o.Steps != 2 {
			t.Errorf("%d %s: %v, %v, want %d", c.value, c.sign, o, ok, c.want)
		}
	}
}

// afterSteps returns a program whose procedure a does steps, at most 549, before what is put behind them, and the join points of these steps.
func afterSteps(steps int, behind string) (string, string) {
	body := strings.Repeat("Cb", steps/50) + strings.Repeat("+0", steps%50) + behind
	calls := slices.Repeat([]string{"call b in a"}, steps/50)
	return "a:" + body + ";b:" + strings.Repeat("+0", 49) + ";c:P", strings.Join(calls, ", ")
}

func TestLimitOfSteps(t *testing.T) {
	for _, c := range []struct {
		steps   int
		behind  string
		outcome string
		points  string
		depth   int
	}{
		{499, "", "3: done 499", "", 2},
		{500, "", "3: done 500", "", 2},
		{501, "", "3: long 500", "", 2},
		{500, "?[][]", "3: long 500", "", 2},
		{499, "?[P][]", "3: long 500", ", print in a", 2},
		{500, "+1P", "3: long 500", "", 2},
		{499, "+1P", "4: long 500", ", print in a", 2},
		{498, "+1P", "4: 4 done 500", ", print in a", 2},
		// A print or a call that is not done is a join point all the same, and the last one.
		{500, "P", "3: long 500", ", print in a", 2},
		{500, "PP", "3: long 500", ", print in a", 2},
		{499, "PPP", "3: 3 long 500", ", print in a, print in a", 2},
		{500, "CcP", "3: long 500", ", call c in a", 2},
		{499, "CcP", "3: long 500", ", call c in a, print in ac", 2},
		{498, "CcP", "3: 3 long 500", ", call c in a, print in ac, print in a", 2},
		{497, "CcP", "3: 3 3 done 500", ", call c in a, print in ac, print in a", 2},
		{548, "", "3: long 500", "", 2},
	} {
		w, calls := afterSteps(c.steps, c.behind)
		if c.steps > 500 {
			_, calls = afterSteps(500, "")
		}
		checkRun(t, w, "a", 3, wholeRun{c.outcome, calls + c.points, c.depth})
	}
}

// callsDown returns the calls of procedures that call one another, and what stands in the last one of them.
func callsDown(names string, end string) string {
	var parts []string
	for i := 1; i < len(names); i++ {
		parts = append(parts, "call "+names[i:i+1]+" in "+names[:i])
	}
	return strings.Join(parts, ", ") + end
}

func TestLimitOfDepth(t *testing.T) {
	as := strings.Repeat("a", 20)
	down := "a:?[-1CaP][P]"
	ups := ""
	for i := 20; i > 0; i-- {
		ups += ", print in " + as[:i]
	}
	checkRun(t, down, "a", 19, wholeRun{"0:" + strings.Repeat(" 0", 20) + " done 78", callsDown(as, ups), 20})
	checkRun(t, down, "a", 20, wholeRun{"0: deep 60", callsDown(as, ", call a in "+as), 20})
	checkRun(t, down, "a", 9999, wholeRun{"9979: deep 60", callsDown(as, ", call a in "+as), 20})
	checkRun(t, "a:CaPCa", "a", 0, wholeRun{"0: deep 20", callsDown(as, ", call a in "+as), 20})
	// Depth counts what is active, not what was called.
	checkRun(t, "a:"+strings.Repeat("Cb", 60)+";b:", "a", 0, wholeRun{"0: done 60", strings.TrimSuffix(strings.Repeat("call b in a, ", 60), ", "), 2})
	var parts []string
	for i, name := range letters {
		parts = append(parts, string(name)+":C"+string(letters[min(i+1, 25)]))
	}
	w := strings.TrimSuffix(strings.Join(parts, ";"), "Cz")
	checkRun(t, w, "g", 0, wholeRun{"0: done 19", callsDown(letters[6:], ""), 20})
	checkRun(t, w, "f", 0, wholeRun{"0: deep 20", callsDown(letters[5:25], ", call z in "+letters[5:25]), 20})
	checkRun(t, w, "a", 0, wholeRun{"0: deep 20", callsDown(letters[:20], ", call u in "+letters[:20]), 20})
}

// TestLimitsTogether runs without end, so that the call that would be too deep comes before, at or behind the last step.
func TestLimitsTogether(t *testing.T) {
	for n, want := range map[int]string{0: "0: deep 20", 23: "0: deep 480", 24: "0: deep 500", 25: "0: long 500", 190: "0: long 500"} {
		w := "a:" + strings.Repeat("+0", n) + "Ca"
		if got := runWhole(t, w, "a", 0); got.outcome != want {
			t.Errorf("%q: %q, want %q", w, got.outcome, want)
		}
	}
	stack := "z" + strings.Repeat("a", 19)
	for n, want := range map[int]string{24: "0: deep 500", 25: "0: long 500"} {
		w := "a:" + strings.Repeat("+0", 24) + "Ca;z:" + strings.Repeat("+0", n) + "Ca"
		checkRun(t, w, "z", 0, wholeRun{want, callsDown(stack, ", call a in "+stack), 20})
	}
}

func TestValuesOfRuns(t *testing.T) {
	for _, value := range []int{-9999, -9998, -1, 0, 1, 9998, 9999} {
		want := wholeRun{strconv.Itoa(value) + ": " + strconv.Itoa(value) + " done 1", "print in a", 1}
		checkRun(t, "a:P", "a", value, want)
	}
	for _, value := range []int{-10000, 10000, -10001, 10001, 20000, math.MinInt, math.MaxInt, math.MinInt32, math.MaxInt32, 1 << 40, -1 << 40} {
		checkNoRun(t, "a:P", "a", value)
		checkNoRun(t, "a:", "a", value)
	}
}

func TestNoRuns(t *testing.T) {
	for _, name := range wrongNames {
		checkNoRun(t, "a:P;b:Ca", name, 0)
	}
	for _, name := range []string{"c", "z", "Ca"} {
		checkNoRun(t, "a:P;b:Ca", name, 0)
	}
	for _, w := range []string{"", "a", "P", "a:Cb", "b:;a:", "a:;a:", "a:;", "a:K", "a:+", "a:?[P]", "a:P ", "A:P", "a:P\x00", "\xff", "a:" + strings.Repeat("P", 399)} {
		checkNoRun(t, w, "a", 0)
		checkNoRun(t, w, "", 0)
		checkNoRun(t, w, "a", 10000)
	}
	checkRun(t, "a:"+strings.Repeat("+0", 199), "a", 0, wholeRun{"0: done 199", "", 1})
}

func TestFormatOutcome(t *testing.T) {
	for _, c := range []struct {
		o    impl.Outcome
		want string
	}{
		{impl.Outcome{}, "0:  0"},
		{impl.Outcome{Value: 7, Out: []int{}, End: "done", Steps: 1}, "7: done 1"},
		{impl.Outcome{Value: -9999, Out: []int{-1, 0, 10, 9999}, End: "long", Steps: 500}, "-9999: -1 0 10 9999 long 500"},
		{impl.Outcome{Value: 10000, Out: []int{12345}, End: "x y\n\xff", Steps: -3}, "10000: 12345 x y\n\xff -3"},
		{impl.Outcome{Value: math.MinInt64, Out: []int{math.MaxInt64, math.MinInt64}, End: "deep", Steps: math.MaxInt64}, "-9223372036854775808: 9223372036854775807 -9223372036854775808 deep 9223372036854775807"},
	} {
		if got := impl.FormatOutcome(c.o); got != c.want {
			t.Errorf("FormatOutcome = %q, want %q", got, c.want)
		}
	}
}

func TestSameOutcome(t *testing.T) {
	o := impl.Outcome{Value: 1, Out: []int{2, 3}, End: "done", Steps: 4}
	for _, c := range []struct {
		other impl.Outcome
		want  bool
	}{
		{impl.Outcome{Value: 1, Out: []int{2, 3}, End: "done", Steps: 4}, true},
		{impl.Outcome{Value: 1, Out: []int{2, 3}, End: "done", Steps: -500}, true},
		{impl.Outcome{Value: -1, Out: []int{2, 3}, End: "done", Steps: 4}, false},
		{impl.Outcome{Value: 1, Out: []int{3, 2}, End: "done", Steps: 4}, false},
		{impl.Outcome{Value: 1, Out: []int{2}, End: "done", Steps: 4}, false},
		{impl.Outcome{Value: 1, Out: []int{2, 3, 0}, End: "done", Steps: 4}, false},
		{impl.Outcome{Value: 1, Out: []int{2, 4}, End: "done", Steps: 4}, false},
		{impl.Outcome{Value: 1, Out: []int{2, 3}, End: "deep", Steps: 4}, false},
		{impl.Outcome{Value: 1, Out: []int{2, 3}, Steps: 4}, false},
		{impl.Outcome{}, false},
	} {
		if impl.SameOutcome(o, c.other) != c.want || impl.SameOutcome(c.other, o) != c.want {
			t.Errorf("SameOutcome(%v, %v), want %v", o, c.other, c.want)
		}
	}
	// A nil slice and an empty one are equivalent.
	if !impl.SameOutcome(impl.Outcome{}, impl.Outcome{Out: []int{}, Steps: 1}) {
		t.Errorf("SameOutcome of no prints")
	}
}

// A textRun is a run that only rewrites texts: what is still to be done is a text, in which `.` ends a procedure, `!` stands in front of a print or a call that is no join point, and `{` and a digit tell that advice is begun.
type textRun struct {
	names  string
	bodies []string
	// inPlace returns what stands in place of a join point.
	inPlace func(s string, stack string) string
	todo    string
	stack   string
	value   int
	points  []string
	begun   [10]int
	out     string
	end     string
	steps   int
	depth   int
}

func (r *textRun) bodyOf(name string) string { return r.bodies[strings.Index(r.names, name)] }

// takeSign takes what is no step off the text, and reports whether there was such.
func (r *textRun) takeSign() bool {
	switch r.todo[0] {
	case '.':
		r.todo, r.stack = r.todo[1:], r.stack[:len(r.stack)-1]
	case '{':
		r.begun[r.todo[1]-'0']++
		r.todo = r.todo[2:]
	case 'P':
		r.points = append(r.points, "print in "+r.stack)
		r.todo = r.inPlace("P", r.stack) + r.todo[1:]
	case 'C':
		r.points = append(r.points, "call "+r.todo[1:2]+" in "+r.stack)
		r.todo = r.inPlace(r.todo[:2], r.stack) + r.todo[2:]
	default:
		return false
	}
	return true
}

// takeStep takes a step off the text.
func (r *textRun) takeStep() {
	switch r.todo[0] {
	case '!':
		s := r.todo[1:3]
		if s[0] == 'P' {
			r.out += " " + strconv.Itoa(r.value)
			r.todo = r.todo[2:]
			return
		}
		if len(r.stack) == 20 {
			r.end = "deep"
			return
		}
		r.stack += s[1:]
		r.depth = max(r.depth, len(r.stack))
		r.todo = r.bodyOf(s[1:]) + "." + r.todo[3:]
	case '?':
		middle := closingOf(r.todo, 1)
		end := closingOf(r.todo, middle+1)
		chosen := r.todo[middle+2 : end]
		if r.value > 0 {
			chosen = r.todo[2:middle]
		}
		r.todo = chosen + r.todo[end+1:]
	default:
		r.value = changedBy(r.value, r.todo[:2])
		r.todo = r.todo[2:]
	}
}

// closingOf returns the index of the bracket that closes the one at i.
func closingOf(s string, i int) int {
	for open := 0; ; i++ {
		open += strings.Count(s[i:i+1], "[") - strings.Count(s[i:i+1], "]")
		if open == 0 {
			return i
		}
	}
}

func (r *textRun) run(name string, value int) wholeRun {
	r.todo, r.stack, r.value, r.end, r.depth = r.bodyOf(name)+". ", name, value, "done", 1
	for r.todo != " " && r.end == "done" {
		if r.takeSign() {
			continue
		}
		if r.steps == 500 {
			r.end = "long"
			break
		}
		r.steps++
		r.takeStep()
	}
	return wholeRun{strconv.Itoa(r.value) + ":" + r.out + " " + r.end + " " + strconv.Itoa(r.steps), strings.Join(r.points, ", "), r.depth}
}

func runOfTexts(names string, bodies []string, name string, value int) wholeRun {
	r := textRun{names: names, bodies: bodies, inPlace: func(s string, stack string) string { return "!" + s }}
	return r.run(name, value)
}

// changedBy counts with magnitude and sign apart.
func changedBy(value int, s string) int {
	digit := int(s[1] - '0')
	switch s[0] {
	case '+':
		value += digit
	case '-':
		value -= digit
	default:
		value *= digit
	}
	for value > 9999 {
		value -= 10000
	}
	for value < -9999 {
		value += 10000
	}
	return value
}

func randomValue(r *rand.Rand) int {
	switch r.Intn(4) {
	case 0:
		return r.Intn(7) - 3
	case 1:
		return 9999 - r.Intn(30)
	case 2:
		return r.Intn(30) - 9999
	default:
		return r.Intn(19999) - 9999
	}
}

// layeredBodies returns bodies of procedures that call only later ones, so that a run of many steps does not become too deep first.
func layeredBodies(r *rand.Rand, names string) []string {
	var bodies []string
	for i := range names {
		body := ""
		for range 4 + r.Intn(6) {
			if i+1 < len(names) {
				body += randomBody(r, names[i+1:], 1)
			} else {
				body += []string{"P", "+7", "-9", "*8", "?[-8P][*3+5]"}[r.Intn(5)]
			}
		}
		bodies = append(bodies, body)
	}
	return bodies
}

func TestRunsAsTexts(t *testing.T) {
	r := rand.New(rand.NewSource(4))
	ends := map[string]int{}
	for i := range 6000 {
		names, bodies := randomProgram(r)
		if i%2 == 0 {
			names = "bdnz"
			bodies = layeredBodies(r, names)
		}
		w := programText(names, bodies)
		if len(w) > 400 {
			continue
		}
		k := r.Intn(len(names))
		name, value := names[k:k+1], randomValue(r)
		got, want := runWhole(t, w, name, value), runOfTexts(names, bodies, name, value)
		if got != want {
			t.Fatalf("%q, %q, %d: %+v, want %+v", w, name, value, got, want)
		}
		words := strings.Fields(got.outcome)
		ends[words[len(words)-2]]++
	}
	if ends["done"] < 100 || ends["long"] < 100 || ends["deep"] < 100 {
		t.Errorf("too few runs of some end: %v", ends)
	}
}

// TestRunsOfProceduresNamedOtherwise runs a program with a procedure named otherwise: only the names in the join points are others.
func TestRunsOfProceduresNamedOtherwise(t *testing.T) {
	r := rand.New(rand.NewSource(5))
	for range 1000 {
		names, bodies := randomProgram(r)
		w := programText(names, bodies)
		k := r.Intn(len(names))
		name, to, value := names[k:k+1], letters[r.Intn(26):][:1], randomValue(r)
		renamed, ok := impl.RenameProc(w, name, to)
		if !ok {
			continue
		}
		before, _ := impl.JoinPointsOf(w, name, value)
		for i := range before {
			before[i].Name = strings.ReplaceAll(before[i].Name, name, to)
			before[i].Stack = strings.ReplaceAll(before[i].Stack, name, to)
		}
		want := runWhole(t, w, name, value)
		want.points = pointsText(before)
		checkRun(t, renamed, to, value, want)
	}
}

func TestRunsShareNoMemory(t *testing.T) {
	w := "a:PCbP;b:P"
	first, _ := impl.RunProgram(w, "a", 5)
	second, _ := impl.RunProgram(w, "a", 5)
	points, _ := impl.JoinPointsOf(w, "a", 5)
	again, _ := impl.JoinPointsOf(w, "a", 5)
	for i := range first.Out {
		first.Out[i] = -1
	}
	for i := range points {
		points[i] = impl.JoinPoint{}
	}
	_ = append(first.Out[:0], 9, 9, 9, 9)
	_ = append(points[:0], impl.JoinPoint{Kind: "call"})
	if !slices.Equal(second.Out, []int{5, 5, 5}) || pointsText(again) != "print in a, call b in a, print in ab, print in a" {
		t.Errorf("%v, %v after other results were changed", second, again)
	}
	// Texts and lists that are compared or formatted stay as they are, beyond their length too.
	out := []int{1, 2, 3, 4}
	o := impl.Outcome{Out: out[:2], End: "done"}
	if impl.FormatOutcome(o) != "0: 1 2 done 0" || !impl.SameOutcome(o, o) || !slices.Equal(out, []int{1, 2, 3, 4}) {
		t.Errorf("an argument was changed: %v", out)
	}
}
