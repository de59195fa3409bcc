package tests

import (
	"math/rand"
	"slices"
	"strings"
	"testing"

	"loop.example/wovenprograms/impl"
)

const letters = "abcdefghijklmnopqrstuvwxyz"

var wrongNames = []string{"", "A", "Z", "ab", "aa", " ", "a ", "0", "`", "{", "\x00", "\xff", "ä", "ａ", ":", ";", "P"}

// twoOf returns a result and its truth as one value that can be compared.
func twoOf(s string, ok bool) [2]string {
	if ok {
		return [2]string{s, "true"}
	}
	return [2]string{s, "false"}
}

func some(s string) [2]string { return twoOf(s, true) }

var none = twoOf("", false)

func checkProgram(t *testing.T, w string) {
	t.Helper()
	if !impl.ProgramValid(w) || impl.ProcsOf(w) == "" || impl.SizeOf(w) < 0 {
		t.Errorf("%q: %v, %q, %d, want a program", w, impl.ProgramValid(w), impl.ProcsOf(w), impl.SizeOf(w))
	}
}

// checkNoProgram asks every function that gets a program.
func checkNoProgram(t *testing.T, w string) {
	t.Helper()
	if impl.ProgramValid(w) {
		t.Errorf("ProgramValid(%q)", w)
	}
	if got := impl.ProcsOf(w); got != "" {
		t.Errorf("ProcsOf(%q) = %q", w, got)
	}
	if got := impl.SizeOf(w); got != -1 {
		t.Errorf("SizeOf(%q) = %d", w, got)
	}
	for _, name := range []string{"a", "b"} {
		if got := impl.CallsOf(w, name); got != "" {
			t.Errorf("CallsOf(%q, %q) = %q", w, name, got)
		}
		if got := impl.ReachOf(w, name); got != "" {
			t.Errorf("ReachOf(%q, %q) = %q", w, name, got)
		}
		if got := twoOf(impl.BodyOf(w, name)); got != none {
			t.Errorf("BodyOf(%q, %q) = %q", w, name, got)
		}
		if got := twoOf(impl.WithBody(w, name, "")); got != none {
			t.Errorf("WithBody(%q, %q, \"\") = %q", w, name, got)
		}
		for _, to := range []string{"a", "z"} {
			if got := twoOf(impl.RenameProc(w, name, to)); got != none {
				t.Errorf("RenameProc(%q, %q, %q) = %q", w, name, to, got)
			}
		}
	}
}

func checkStatements(t *testing.T, body string, want []string) {
	t.Helper()
	if list, ok := impl.StatementsOf(body); !ok || !slices.Equal(list, want) {
		t.Errorf("StatementsOf(%q) = %q, %v, want %q", body, list, ok, want)
	}
}

func checkNoBody(t *testing.T, body string) {
	t.Helper()
	if list, ok := impl.StatementsOf(body); ok || len(list) != 0 {
		t.Errorf("StatementsOf(%q) = %q, %v, want none", body, list, ok)
	}
}

func TestProgramsOfTheGrammar(t *testing.T) {
	for _, w := range []string{"a:", "m:", "z:", "a:;z:", "a:;b:;c:", "a:Ca", "a:Cb;b:Ca", "a:+0-9*5", "a:?[][]", "a:?[?[][P]][Ca]P"} {
		checkProgram(t, w)
	}
	for _, w := range []string{
		"", ":", ";", "a", "a;", "a:;", ";a:", "a:;;b:", "a:P;", "a::", "a:P:", "aP", "ab:P", "a:b:P",
		"A:", "1:", " a:", "a :", "a: ", "a:P ", "a:P;\nb:", "a:P\n", "ä:", "\xff:",
		"b:;a:", "a:;a:", "a:P;a:P", "a:;c:;b:", "a:;b:;b:",
		"a:Cb", "b:Ca;c:", "a:?[Cb][]", "a:?[][Cb]", "a:?[?[][Cb]][]", "a:;b:Cc", "a:CA", "a:C", "a:C1",
		"a:K", "a:p", "a:c", "a:1", "a:+", "a:+10", "a:+-1", "a:/1", "a:+a",
		"a:?", "a:?[", "a:?[]", "a:?[][", "a:?[]]", "a:?][", "a:?P[][]", "a:?[]P[]", "a:?[][]]", "a:[]", "a:[P]", "a:]", "a:?[+][1]", "a:?[C][a]", "a:?[][?]", "a:?[][?[]]", "a:?[P;b:][]",
	} {
		checkNoProgram(t, w)
	}
}

func TestProcedures(t *testing.T) {
	w := "b:P;m:+1?[Cm?[Cz][]][Cb]P;q:CqCq;z:CbP"
	if got := impl.ProcsOf(w); got != "bmqz" {
		t.Errorf("ProcsOf = %q", got)
	}
	if got := impl.SizeOf(w); got != 12 {
		t.Errorf("SizeOf = %d", got)
	}
	for _, c := range [][4]string{
		{"b", "P", "", ""},
		{"m", "+1?[Cm?[Cz][]][Cb]P", "bmz", "bmz"},
		{"q", "CqCq", "q", "q"},
		{"z", "CbP", "b", "b"},
	} {
		if got := twoOf(impl.BodyOf(w, c[0])); got != some(c[1]) {
			t.Errorf("BodyOf(%q) = %q", c[0], got)
		}
		if calls, reach := impl.CallsOf(w, c[0]), impl.ReachOf(w, c[0]); calls != c[2] || reach != c[3] {
			t.Errorf("CallsOf(%q) = %q, ReachOf = %q", c[0], calls, reach)
		}
	}
	if impl.SizeOf("a:") != 0 || impl.SizeOf("a:;b:") != 0 || impl.SizeOf("a:?[][]") != 1 {
		t.Errorf("SizeOf of bodies without statements")
	}
	if got := twoOf(impl.BodyOf("a:;b:P", "a")); got != some("") {
		t.Errorf("BodyOf an empty body = %q", got)
	}
}

func TestReach(t *testing.T) {
	for _, c := range [][3]string{
		{"a:", "a", ""},
		{"a:Cb;b:", "a", "b"},
		{"a:Cb;b:", "b", ""},
		{"a:Ca", "a", "a"},
		{"a:Cb;b:Ca", "a", "ab"},
		{"a:Cb;b:Cc;c:Cb", "a", "bc"},
		{"a:Cc;b:;c:Cd;d:Cd;e:Ca", "a", "cd"},
		{"a:Cc;b:;c:Cd;d:Cd;e:Ca", "e", "acd"},
		{"a:?[Cb][Cc];b:?[][?[Cd][]];c:;d:", "a", "bcd"},
		{"a:;b:Ca;c:Cb;z:Cc", "z", "abc"},
	} {
		if got := impl.ReachOf(c[0], c[1]); got != c[2] {
			t.Errorf("ReachOf(%q, %q) = %q, want %q", c[0], c[1], got, c[2])
		}
	}
}

func TestNamesOfNoProcedure(t *testing.T) {
	w := "a:Cb;b:P"
	for _, name := range append([]string{"c", "z"}, wrongNames...) {
		if impl.CallsOf(w, name) != "" || impl.ReachOf(w, name) != "" {
			t.Errorf("CallsOf, ReachOf(%q) = %q, %q", name, impl.CallsOf(w, name), impl.ReachOf(w, name))
		}
		if got := twoOf(impl.BodyOf(w, name)); got != none {
			t.Errorf("BodyOf(%q) = %q", name, got)
		}
		if got := twoOf(impl.RenameProc(w, name, "d")); got != none {
			t.Errorf("RenameProc(%q) = %q", name, got)
		}
		if got := twoOf(impl.RenameProc(w, name, name)); got != none {
			t.Errorf("RenameProc(%q) to itself = %q", name, got)
		}
	}
	for _, name := range wrongNames {
		if got := twoOf(impl.WithBody(w, name, "P")); got != none {
			t.Errorf("WithBody(%q) = %q", name, got)
		}
		if got := twoOf(impl.RenameProc(w, "a", name)); got != none {
			t.Errorf("RenameProc to %q = %q", name, got)
		}
	}
}

func TestWithBody(t *testing.T) {
	for _, c := range [][4]string{
		{"a:P", "a", "", "a:"},
		{"a:P", "a", "Ca", "a:Ca"},
		{"b:P;d:", "a", "Cb", "a:Cb;b:P;d:"},
		{"b:P;d:", "c", "Cc", "b:P;c:Cc;d:"},
		{"b:P;d:", "e", "?[Cd][Ce]", "b:P;d:;e:?[Cd][Ce]"},
		{"b:P;d:Cb", "b", "+1", "b:+1;d:Cb"},
	} {
		if got := twoOf(impl.WithBody(c[0], c[1], c[2])); got != some(c[3]) {
			t.Errorf("WithBody(%q, %q, %q) = %q, want %q", c[0], c[1], c[2], got, c[3])
		}
	}
	for _, body := range []string{"Cc", "?[][Cc]", "K", "+", "P;c:P", ";", ":", " ", "?[", "]", "P\x00", "\xff"} {
		if got := twoOf(impl.WithBody("a:P", "a", body)); got != none {
			t.Errorf("WithBody with %q = %q", body, got)
		}
		if got := twoOf(impl.WithBody("a:P", "b", body)); got != none {
			t.Errorf("WithBody with %q = %q", body, got)
		}
	}
	// The result would be a program, but the argument is none.
	if got := twoOf(impl.WithBody("a:Cb", "b", "")); got != none {
		t.Errorf("WithBody of no program = %q", got)
	}
}

func TestRenameProc(t *testing.T) {
	w := "b:?[CbCd][?[Cb][P]];d:CbCf;f:"
	for _, c := range [][3]string{
		{"b", "b", w},
		{"b", "a", "a:?[CaCd][?[Ca][P]];d:CaCf;f:"},
		{"b", "c", "c:?[CcCd][?[Cc][P]];d:CcCf;f:"},
		{"b", "e", "d:CeCf;e:?[CeCd][?[Ce][P]];f:"},
		{"b", "z", "d:CzCf;f:;z:?[CzCd][?[Cz][P]]"},
		{"f", "a", "a:;b:?[CbCd][?[Cb][P]];d:CbCa"},
		{"f", "f", w},
	} {
		if got := twoOf(impl.RenameProc(w, c[0], c[1])); got != some(c[2]) {
			t.Errorf("RenameProc(%q, %q) = %q, want %q", c[0], c[1], got, c[2])
		}
	}
	for _, to := range []string{"d", "f"} {
		if got := twoOf(impl.RenameProc(w, "b", to)); got != none {
			t.Errorf("RenameProc to %q = %q", to, got)
		}
	}
}

func TestLimitOfBodies(t *testing.T) {
	for n, valid := range map[int]bool{399: true, 400: true, 401: false, 402: false, 5000: false} {
		body := strings.Repeat("P", n)
		if list, ok := impl.StatementsOf(body); ok != valid || valid != (len(list) == n) {
			t.Errorf("StatementsOf %d prints = %d, %v", n, len(list), ok)
		}
	}
	deep := strings.Repeat("?[", 80) + strings.Repeat("][]", 80)
	checkStatements(t, deep, []string{deep})
	checkNoBody(t, "P"+deep)
	checkNoBody(t, strings.Repeat("?[", 200))
	checkNoBody(t, strings.Repeat("]", 400))
	checkNoBody(t, strings.Repeat("?[", 100000))
	// Characters of more than one byte count as all of them.
	checkNoBody(t, strings.Repeat("é", 200))
}

func TestLimitOfPrograms(t *testing.T) {
	prints := strings.Repeat("P", 398)
	checkProgram(t, "a:"+prints)
	checkNoProgram(t, "a:P"+prints)
	checkNoProgram(t, strings.Repeat("a:P;", 1000))
	checkProgram(t, "a:"+prints[:195]+";b:"+prints[:200])
	checkNoProgram(t, "a:"+prints[:196]+";b:"+prints[:200])
	if got := twoOf(impl.WithBody("a:", "a", prints)); got != some("a:"+prints) {
		t.Errorf("WithBody of 400 bytes = %q", got)
	}
	if got := twoOf(impl.WithBody("a:", "a", prints+"P")); got != none {
		t.Errorf("WithBody of 401 bytes = %q", got)
	}
	if got := twoOf(impl.WithBody("a:P", "b", prints[:393])); got != some("a:P;b:"+prints[:393]) {
		t.Errorf("WithBody of 399 bytes = %q", got)
	}
	if got := twoOf(impl.WithBody("a:P", "b", prints[:395])); got != none {
		t.Errorf("WithBody of 401 bytes = %q", got)
	}
	if got := twoOf(impl.RenameProc("a:"+prints, "a", "z")); got != some("z:"+prints) {
		t.Errorf("RenameProc of 400 bytes = %q", got)
	}
}

func TestTwentySixProcedures(t *testing.T) {
	var parts []string
	for i, name := range letters {
		parts = append(parts, string(name)+":C"+string(letters[(i+1)%26]))
	}
	w := strings.Join(parts, ";")
	checkProgram(t, w)
	if impl.ProcsOf(w) != letters || impl.SizeOf(w) != impl.MaxProcs {
		t.Errorf("ProcsOf = %q, SizeOf = %d", impl.ProcsOf(w), impl.SizeOf(w))
	}
	for _, name := range letters {
		if got := impl.ReachOf(w, string(name)); got != letters {
			t.Errorf("ReachOf(%q) = %q", name, got)
		}
		if got := twoOf(impl.RenameProc(w, "a", string(name))); name != 'a' && got != none {
			t.Errorf("RenameProc to %q = %q", name, got)
		}
	}
	if got := twoOf(impl.RenameProc(w, "a", "a")); got != some(w) {
		t.Errorf("RenameProc to itself = %q", got)
	}
	for _, end := range []string{";a:", ";z:", ";{:", ";A:"} {
		checkNoProgram(t, w+end)
	}
}

// TestArbitraryBytes puts each byte into each place of a body and a program.
func TestArbitraryBytes(t *testing.T) {
	body, w := "+1?[P][Ca]", "a:+1;b:?[Ca][]"
	for b := range 256 {
		sign := string([]byte{byte(b)})
		for i := 0; i <= len(body); i++ {
			for _, text := range []string{body[:i] + sign + body[i:], body[:i] + sign + body[min(i+1, len(body)):]} {
				if list, ok := impl.StatementsOf(text); ok != isBody(text) || strings.Join(list, "") != text && ok {
					t.Errorf("StatementsOf(%q) = %q, %v", text, list, ok)
				}
			}
		}
		for i := 0; i <= len(w); i++ {
			for _, text := range []string{w[:i] + sign + w[i:], w[:i] + sign + w[min(i+1, len(w)):]} {
				if got := impl.ProgramValid(text); got != isProgram(text) {
					t.Errorf("ProgramValid(%q) = %v", text, got)
				}
			}
		}
	}
	for _, text := range []string{"\x00", "\xff\xfe", "P\xed\xa0\x80", "+１", "+٣", "Cé", "\u2028", "？[][]"} {
		checkNoBody(t, text)
		checkNoProgram(t, text)
		checkNoProgram(t, "a:"+text)
	}
}

// bodyEnd returns the index behind the statements that a text begins with.
func bodyEnd(s string, i int) int {
	for {
		next := statementEnd(s, i)
		if next < 0 {
			return i
		}
		i = next
	}
}

// statementEnd returns the index behind the statement at i, -1 if there is none.
func statementEnd(s string, i int) int {
	rest := s[i:]
	switch {
	case strings.HasPrefix(rest, "P"):
		return i + 1
	case len(rest) > 1 && strings.Contains("+-*", rest[:1]) && strings.Contains("0123456789", rest[1:2]):
		return i + 2
	case len(rest) > 1 && rest[0] == 'C' && strings.Contains(letters, rest[1:2]):
		return i + 2
	case strings.HasPrefix(rest, "?["):
		i = bodyEnd(s, i+2)
		if !strings.HasPrefix(s[i:], "][") {
			return -1
		}
		i = bodyEnd(s, i+2)
		if strings.HasPrefix(s[i:], "]") {
			return i + 1
		}
	}
	return -1
}

func isBody(s string) bool { return len(s) <= 400 && bodyEnd(s, 0) == len(s) }

func statementsIn(s string) []string {
	var list []string
	for i := 0; i < len(s); {
		end := statementEnd(s, i)
		list = append(list, s[i:end])
		i = end
	}
	return list
}

func isProgram(w string) bool {
	names := ""
	for _, part := range strings.Split(w, ";") {
		if len(part) < 2 || !strings.Contains(letters, part[:1]) || part[1] != ':' || !isBody(part[2:]) || names != "" && names[len(names)-1:] >= part[:1] {
			return false
		}
		names += part[:1]
	}
	for _, part := range strings.Split(w, ";") {
		if strings.Trim(calledIn(part[2:]), names) != "" {
			return false
		}
	}
	return len(w) <= 400
}

func calledIn(body string) string {
	called := ""
	for _, name := range letters {
		if strings.Contains(body, "C"+string(name)) {
			called += string(name)
		}
	}
	return called
}

// randomBody returns a body in which procedures of names are called.
func randomBody(r *rand.Rand, names string, depth int) string {
	s := ""
	for range r.Intn(4) {
		switch k := r.Intn(5); {
		case k == 0:
			s += "P"
		case k == 1:
			s += string("+-*"[r.Intn(3)]) + string("0123456789"[r.Intn(10)])
		case k == 2 || depth == 0:
			s += "C" + string(names[r.Intn(len(names))])
		default:
			s += "?[" + randomBody(r, names, depth-1) + "][" + randomBody(r, names, depth-1) + "]"
		}
	}
	return s
}

// randomProgram returns the names and the bodies of a program.
func randomProgram(r *rand.Rand) (string, []string) {
	for {
		names := ""
		for _, name := range letters {
			if r.Intn(6) == 0 {
				names += string(name)
			}
		}
		var bodies []string
		for range names {
			bodies = append(bodies, randomBody(r, names, 2))
		}
		if names != "" && len(programText(names, bodies)) <= 400 {
			return names, bodies
		}
	}
}

func programText(names string, bodies []string) string {
	var parts []string
	for i, body := range bodies {
		parts = append(parts, names[i:i+1]+":"+body)
	}
	slices.Sort(parts)
	return strings.Join(parts, ";")
}

// eachShortText visits all texts of at most some signs.
func eachShortText(signs string, most int, visit func(string)) {
	texts := []string{""}
	for i := 0; i < len(texts); i++ {
		visit(texts[i])
		if len(texts[i]) == most {
			continue
		}
		for k := range signs {
			texts = append(texts, texts[i]+signs[k:k+1])
		}
	}
}

func TestShortBodies(t *testing.T) {
	eachShortText("+1CaP?[]", 5, func(text string) {
		if list, ok := impl.StatementsOf(text); ok != isBody(text) || ok && !slices.Equal(list, statementsIn(text)) {
			t.Fatalf("StatementsOf(%q) = %q, %v", text, list, ok)
		}
	})
}

func TestChangedBodies(t *testing.T) {
	r := rand.New(rand.NewSource(1))
	for range 20000 {
		body := []byte(randomBody(r, "abc", 4))
		for range r.Intn(3) {
			i, j := r.Intn(len(body)+1), r.Intn(len(body)+1)
			switch r.Intn(3) {
			case 0:
				body = slices.Insert(body, i, "+1CaP?[]K"[r.Intn(9)])
			case 1:
				body = slices.Delete(body, min(i, j), min(max(i, j), min(i, j)+2))
			default:
				if len(body) > max(i, j) {
					body[i], body[j] = body[j], body[i]
				}
			}
		}
		text := string(body)
		list, ok := impl.StatementsOf(text)
		if ok != isBody(text) || ok && !slices.Equal(list, statementsIn(text)) || !ok && len(list) != 0 {
			t.Fatalf("StatementsOf(%q) = %q, %v", text, list, ok)
		}
		if got := impl.ProgramValid("a:" + text + ";b:;c:P"); got != isProgram("a:"+text+";b:;c:P") {
			t.Fatalf("ProgramValid of %q = %v", text, got)
		}
	}
}

// wayOfCalls returns what is called from one procedure over any number of calls.
func wayOfCalls(names string, bodies []string, from int) string {
	reached := calledIn(bodies[from])
	for range names {
		for i, name := range names {
			if strings.ContainsRune(reached, name) {
				reached += calledIn(bodies[i])
			}
		}
		signs := []byte(reached)
		slices.Sort(signs)
		reached = string(slices.Compact(signs))
	}
	return reached
}

// TestProgramIsItsProcedures makes programs of procedures and asks for these.
func TestProgramIsItsProcedures(t *testing.T) {
	r := rand.New(rand.NewSource(2))
	for range 2000 {
		names, bodies := randomProgram(r)
		w := programText(names, bodies)
		size, built := 0, names[:1]+":"
		for i := range bodies {
			name := names[i : i+1]
			size += strings.Count(bodies[i], "P") + strings.Count(bodies[i], "C") + strings.Count(bodies[i], "?")
			size += strings.Count(bodies[i], "+") + strings.Count(bodies[i], "-") + strings.Count(bodies[i], "*")
			if got := twoOf(impl.BodyOf(w, name)); got != some(bodies[i]) {
				t.Fatalf("BodyOf(%q, %q) = %q", w, name, got)
			}
			if got := impl.CallsOf(w, name); got != calledIn(bodies[i]) {
				t.Fatalf("CallsOf(%q, %q) = %q", w, name, got)
			}
			if got := impl.ReachOf(w, name); got != wayOfCalls(names, bodies, i) {
				t.Fatalf("ReachOf(%q, %q) = %q", w, name, got)
			}
			built, _ = impl.WithBody(built, name, "")
		}
		for _, i := range r.Perm(len(bodies)) {
			built, _ = impl.WithBody(built, names[i:i+1], bodies[i])
		}
		if built != w || !impl.ProgramValid(w) || impl.ProcsOf(w) != names || impl.SizeOf(w) != size {
			t.Fatalf("%q: built %q, ProcsOf %q, SizeOf %d, want %d", w, built, impl.ProcsOf(w), impl.SizeOf(w), size)
		}
	}
}

// TestNamedOtherwise renames a procedure of a program in all ways, and back.
func TestNamedOtherwise(t *testing.T) {
	r := rand.New(rand.NewSource(3))
	for range 300 {
		names, bodies := randomProgram(r)
		w := programText(names, bodies)
		i := r.Intn(len(names))
		name := names[i : i+1]
		for _, letter := range letters {
			to := string(letter)
			got := twoOf(impl.RenameProc(w, name, to))
			if to != name && strings.Contains(names, to) {
				if got != none {
					t.Fatalf("RenameProc(%q, %q, %q) = %q", w, name, to, got)
				}
				continue
			}
			var renamed []string
			for _, body := range bodies {
				renamed = append(renamed, strings.ReplaceAll(body, "C"+name, "C"+to))
			}
			if want := programText(names[:i]+to+names[i+1:], renamed); got != some(want) {
				t.Fatalf("RenameProc(%q, %q, %q) = %q, want %q", w, name, to, got, want)
			}
			if back := twoOf(impl.RenameProc(got[0], to, name)); back != some(w) {
				t.Fatalf("RenameProc(%q, %q, %q) = %q, want %q", got[0], to, name, back, w)
			}
		}
	}
}

func TestStatementsShareNoMemory(t *testing.T) {
	body := "+1P?[P][]"
	first, _ := impl.StatementsOf(body)
	second, _ := impl.StatementsOf(body)
	for i := range first {
		first[i] = "*9"
	}
	_ = append(first[:0], "-9")
	if !slices.Equal(second, []string{"+1", "P", "?[P][]"}) {
		t.Errorf("StatementsOf = %q after another result was changed", second)
	}
}
