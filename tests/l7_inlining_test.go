package tests

import (
	"math/rand"
	"slices"
	"strings"
	"sync"
	"testing"

	"loop.example/wovenprograms/impl"
)

func checkPlaced(t *testing.T, statement string, list []impl.Aspect, want string) {
	t.Helper()
	if got, ok := impl.PlaceAdvice(statement, list); got != want || !ok {
		t.Errorf("PlaceAdvice(%q, %q) = %q, %v, want %q", statement, list, got, ok, want)
	}
}

func checkNotPlaced(t *testing.T, statement string, list []impl.Aspect) {
	t.Helper()
	if got, ok := impl.PlaceAdvice(statement, list); got != "" || ok {
		t.Errorf("PlaceAdvice(%q, %q) = %q, %v, want none", statement, list, got, ok)
	}
}

// sizeOfText counts the statements of a program in its text alone: each one begins with one of these signs, which stand nowhere else.
func sizeOfText(w string) int {
	n := 0
	for _, sign := range w {
		if strings.ContainsRune("+-*PC?", sign) {
			n++
		}
	}
	return n
}

// checkInlined asks every function that inlines by what is known at shadows.
func checkInlined(t *testing.T, w string, list []impl.Aspect, want string) {
	t.Helper()
	if !impl.CanInline(w, list) {
		t.Errorf("CanInline(%q, %q) = false", w, list)
	}
	if got, ok := impl.InlineAspects(w, list); got != want || !ok {
		t.Errorf("InlineAspects(%q, %q) = %q, %v, want %q", w, list, got, ok, want)
	}
	if got, ok := impl.GrowthOf(w, list); got != sizeOfText(want)-sizeOfText(w) || !ok {
		t.Errorf("GrowthOf(%q, %q) = %d, %v, want %d", w, list, got, ok, sizeOfText(want)-sizeOfText(w))
	}
}

// checkNotInlined checks that there is no program, whether or not the cuts are known.
func checkNotInlined(t *testing.T, w string, list []impl.Aspect, isKnown bool) {
	t.Helper()
	if got := impl.CanInline(w, list); got != isKnown {
		t.Errorf("CanInline(%q, %q) = %v", w, list, got)
	}
	if got, ok := impl.InlineAspects(w, list); got != "" || ok {
		t.Errorf("InlineAspects(%q, %q) = %q, %v, want none", w, list, got, ok)
	}
	if got, ok := impl.GrowthOf(w, list); got != 0 || ok {
		t.Errorf("GrowthOf(%q, %q) = %d, %v, want none", w, list, got, ok)
	}
}

func checkInlinedFrom(t *testing.T, w string, start string, list []impl.Aspect, want string) {
	t.Helper()
	if !impl.CanInlineFrom(w, start, list) {
		t.Errorf("CanInlineFrom(%q, %q, %q) = false", w, start, list)
	}
	if got, ok := impl.InlineFrom(w, start, list); got != want || !ok {
		t.Errorf("InlineFrom(%q, %q, %q) = %q, %v, want %q", w, start, list, got, ok, want)
	}
}

func checkNotInlinedFrom(t *testing.T, w string, start string, list []impl.Aspect, isKnown bool) {
	t.Helper()
	if got := impl.CanInlineFrom(w, start, list); got != isKnown {
		t.Errorf("CanInlineFrom(%q, %q, %q) = %v", w, start, list, got)
	}
	if got, ok := impl.InlineFrom(w, start, list); got != "" || ok {
		t.Errorf("InlineFrom(%q, %q, %q) = %q, %v, want none", w, start, list, got, ok)
	}
}

func TestPlaceAdvice(t *testing.T) {
	for _, c := range []struct {
		statement string
		advice    []string
		want      string
	}{
		{"P", nil, "P"}, {"Ca", nil, "Ca"}, {"Cz", nil, "Cz"},
		{"P", []string{"before T +1"}, "+1P"}, {"P", []string{"after T +1"}, "P+1"}, {"Cq", []string{"around T P?[][-2]K*3"}, "P?[][-2]Cq*3"},
		{"Cb", []string{"before T "}, "Cb"}, {"Cb", []string{"after T "}, "Cb"}, {"Cb", []string{"around T K"}, "Cb"},
		// Whatever the cuts are.
		{"P", []string{"before Ca +1", "after N +2", "around Wb PK", "before &FaFb -3"}, "+1P-3P+2"}, {"Ca", []string{"before P +1", "around !T "}, "+1"},
		// The first one is around all others.
		{"P", []string{"before T +1", "before T +2"}, "+1+2P"}, {"P", []string{"after T +1", "after T +2"}, "P+2+1"}, {"P", []string{"before T +1", "after T +2"}, "+1P+2"}, {"P", []string{"after T +2", "before T +1"}, "+1P+2"},
		{"Ca", []string{"around T +1K+2", "around T +3K+4", "around T +5K+6"}, "+1+3+5Ca+6+4+2"},
		{"P", []string{"before T +1", "after T +2", "around T +3K+4", "after T +5", "before T +6"}, "+1+3+6P+5+4+2"},
		// Proceeding several times, in front of others and behind them.
		{"Ca", []string{"around T KK"}, "CaCa"}, {"Ca", []string{"around T KPK+1K"}, "CaPCa+1Ca"},
		{"P", []string{"around T KK", "before T +1"}, "+1P+1P"}, {"P", []string{"before T +1", "around T KK"}, "+1PP"}, {"P", []string{"around T K-1K", "after T +1"}, "P+1-1P+1"}, {"P", []string{"after T +1", "around T K-1K"}, "P-1P+1"},
		{"Ca", []string{"around T K+1K", "around T K+2K"}, "Ca+2Ca+1Ca+2Ca"}, {"P", []string{"around T KK", "around T KKK", "around T K"}, "PPPPPP"},
		// Not proceeding: what is in front stays, and what is behind is left out.
		{"P", []string{"around T "}, ""}, {"Ca", []string{"around T *2P"}, "*2P"}, {"P", []string{"before T +1", "around T "}, "+1"}, {"P", []string{"around T ", "before T +1"}, ""}, {"P", []string{"around T +2", "before T +1", "around T KK"}, "+2"},
		{"P", []string{"after T +1", "around T +2", "after T +3"}, "+2+1"}, {"P", []string{"around T KPK", "around T "}, "P"}, {"P", []string{"around T KPK", "around T +1", "around T KK"}, "+1P+1"},
		// Proceeding within choices.
		{"P", []string{"around T ?[K][]"}, "?[P][]"}, {"Ca", []string{"around T ?[][K]K"}, "?[][Ca]Ca"}, {"P", []string{"around T ?[?[K][+1]][-1K]", "before T *2"}, "?[?[*2P][+1]][-1*2P]"}, {"P", []string{"before T *2", "around T ?[?[K][+1]][-1K]"}, "*2?[?[P][+1]][-1P]"},
		{"Cc", []string{"around T ?[K][P]", "around T ?[+1][K]", "after T ?[][-1]"}, "?[?[+1][Cc?[][-1]]][P]"}, {"P", []string{"around T ?[K][K]", "around T ?[][]"}, "?[?[][]][?[][]]"},
	} {
		checkPlaced(t, c.statement, aspectsOf(t, c.advice...), c.want)
	}
	for _, name := range letters {
		checkPlaced(t, "C"+string(name), aspectsOf(t, "around T PKP"), "PC"+string(name)+"P")
	}
}

// proceeds returns advice around that proceeds so often.
func proceeds(times int) impl.Aspect {
	return impl.Aspect{Kind: "around", Cut: "T", Body: strings.Repeat("K", times)}
}

func TestLimitOfPlaces(t *testing.T) {
	before, nothing, print := aspectsOf(t, "before T P")[0], aspectsOf(t, "around T ")[0], aspectsOf(t, "around T P")[0]
	k20, k21 := proceeds(20), proceeds(21)
	full := strings.Repeat("P", 400)
	checkPlaced(t, "P", []impl.Aspect{k20, k20}, full)
	checkPlaced(t, "P", []impl.Aspect{before, k21, proceeds(19)}, full)
	checkPlaced(t, "P", []impl.Aspect{before, proceeds(3), proceeds(7), proceeds(19)}, full)
	checkPlaced(t, "Ca", []impl.Aspect{proceeds(10), k20}, strings.Repeat("Ca", 200))
	checkPlaced(t, "P", aspectsOf(t, "around T ?[K][]", "around T "+full[:35]+strings.Repeat("K", 18), "around T "+strings.Repeat("K", 20)), "?["+full[:395]+"][]")
	for _, c := range []struct {
		statement string
		list      []impl.Aspect
	}{
		{"P", []impl.Aspect{before, k20, k20}}, {"P", []impl.Aspect{k20, k21}}, {"P", []impl.Aspect{before, before, k21, proceeds(19)}}, {"Ca", []impl.Aspect{before, proceeds(10), k20}}, {"Ca", []impl.Aspect{k20, k20}},
		{"P", aspectsOf(t, "around T ?[K][]", "around T "+full[:36]+strings.Repeat("K", 18), "around T "+strings.Repeat("K", 20))},
		{"P", slices.Repeat([]impl.Aspect{proceeds(60)}, 5)}, {"Ca", slices.Repeat([]impl.Aspect{proceeds(60)}, 2)},
	} {
		checkNotPlaced(t, c.statement, c.list)
	}
	// What is too long only on the way, though what comes of it is short.
	for _, front := range aspectsOf(t, "around T ", "around T P", "around T ?[][]", "around T +1P-1") {
		checkNotPlaced(t, "P", []impl.Aspect{front, k20, k21})
		checkNotPlaced(t, "P", []impl.Aspect{front, before, k20, k20})
		checkNotPlaced(t, "Ca", []impl.Aspect{front, k20, k20})
		checkNotPlaced(t, "P", []impl.Aspect{k20, front, before, k20, k20})
		checkPlaced(t, "P", []impl.Aspect{front, k20, k20}, front.Body)
		checkPlaced(t, "P", []impl.Aspect{front, proceeds(60), nothing}, front.Body)
	}
	// What is short on the way, though it would be long with what is left out.
	checkPlaced(t, "P", []impl.Aspect{k20, k21, nothing}, "")
	checkPlaced(t, "P", []impl.Aspect{proceeds(60), proceeds(60), proceeds(60), proceeds(60), nothing}, "")
	checkPlaced(t, "P", []impl.Aspect{k20, k20, print}, full)
	checkNotPlaced(t, "P", []impl.Aspect{k20, k21, print})
	checkNotPlaced(t, "P", []impl.Aspect{nothing, k20, k21, print})
}

func TestStatementsThatCannotBePlaced(t *testing.T) {
	statements := []string{"", "PP", "PCa", "CaP", "CaCb", "+1", "-0", "*9", "?[][]", "?[P][]", "?[P][Ca]", "K", "PK", "C", "C1", "CA", "CC", "CP", "Cab", "aC", "p", "ca", "+", "P ", " P", "P\n", "T", "Fa", "a:P", "a", "[P]", "P]", "\x00", "\xff", "Cä", strings.Repeat("P", 400), strings.Repeat("P", 401)}
	for b := range 256 {
		sign := string([]byte{byte(b)})
		if sign != "P" {
			statements = append(statements, sign)
		}
		if !strings.Contains(letters, sign) {
			statements = append(statements, "C"+sign)
		}
		statements = append(statements, "P"+sign, "Ca"+sign)
	}
	for _, s := range statements {
		for _, list := range [][]impl.Aspect{nil, {}, aspectsOf(t, "around T K"), aspectsOf(t, "around T "), aspectsOf(t, "before P +1", "around N ")} {
			checkNotPlaced(t, s, list)
		}
	}
}

// listsThatCannotBePlaced are lists of aspects that are not valid, and such ones as have no advice around.
func listsThatCannotBePlaced(t *testing.T) (notValid [][]impl.Aspect, notAround [][]impl.Aspect) {
	good := aspectsOf(t, "before P +1", "around Ca KK", "after N ", "around T ")
	for _, wrong := range []impl.Aspect{{}, {Cut: "T", Body: "P"}, {Kind: "before", Body: "P"}, {Kind: "Before", Cut: "T"}, {Kind: "before", Cut: "x"}, {Kind: "before", Cut: "TT"}, {Kind: "before", Cut: "T", Body: "K"}, {Kind: "after", Cut: "N", Body: "?[K][]"}, {Kind: "around", Cut: "N", Body: "Ca"}, {Kind: "around", Cut: "T", Body: "?[K]"}, {Kind: "around", Cut: "T", Body: "x"}, {Kind: "around", Cut: "T", Body: strings.Repeat("K", 61)}, {Kind: "around", Cut: strings.Repeat("!", 40) + "T", Body: "K"}} {
		notValid = append(notValid, []impl.Aspect{wrong}, append(slices.Clone(good), wrong), append([]impl.Aspect{wrong}, good...))
	}
	notValid = append(notValid, slices.Repeat(good[:1], 6), slices.Repeat(good[2:3], 6), slices.Repeat(good[3:], 100))
	// Where it would be left out, or is done at no join point, too.
	for _, text := range []string{"before T ", "after T ", "before N ", "after N ", "after &CzP "} {
		long := aspectsOf(t, text+strings.Repeat("P", 60))[0]
		notAround = append(notAround, []impl.Aspect{long}, append(slices.Clone(good), long), append([]impl.Aspect{long}, good...))
	}
	return notValid, notAround
}

func TestListsThatCannotBeInlined(t *testing.T) {
	notValid, notAround := listsThatCannotBePlaced(t)
	for i, list := range slices.Concat(notValid, notAround) {
		for _, s := range []string{"P", "Ca", "", "PP", "+1", "x"} {
			checkNotPlaced(t, s, list)
		}
		// Programs without shadows, or with all of them where runs do not come to, too.
		for _, w := range []string{"a:", "a:PCa", "a:;b:PCa", "a:?[+1][-1]", "a:P;b:", strings.Repeat("x", 401), "", "a:Cb"} {
			isKnown := i >= len(notValid) && impl.ProgramValid(w)
			checkNotInlined(t, w, list, isKnown)
			checkNotInlinedFrom(t, w, "a", list, isKnown)
		}
	}
	edge := strings.Repeat("P", 59)
	checkPlaced(t, "Ca", aspectsOf(t, "before T "+edge, "after T "+edge), edge+"Ca"+edge)
	checkInlined(t, "a:P", aspectsOf(t, "before N "+edge, "after T "+edge), "a:P"+edge)
	checkPlaced(t, "P", slices.Repeat(aspectsOf(t, "before T +1"), 5), "+1+1+1+1+1P")
	checkInlined(t, "a:P", slices.Repeat(aspectsOf(t, "before T +1"), 5), "a:+1+1+1+1+1P")
}

func TestInlineAspects(t *testing.T) {
	for _, c := range []struct {
		w      string
		advice []string
		want   string
	}{
		{"a:+1Cb;b:+1", []string{"around Cb PKP"}, "a:+1PCbP;b:+1"},
		{"a:+1CbP;b:?[P-1Cb][]", []string{"around Cb PKP", "before P ?[][P]"}, "a:+1PCbP?[][P]P;b:?[?[][P]P-1PCbP][]"},
		{"a:+1CbP;b:?[P-1Cb][]", []string{"before P ?[][P]", "around Cb PKP"}, "a:+1PCbP?[][P]P;b:?[?[][P]P-1PCbP][]"},
		// No aspects, no shadows, or no cut that matches.
		{"a:PCb;b:?[P][Ca]", nil, "a:PCb;b:?[P][Ca]"}, {"a:", []string{"before T P"}, "a:"}, {"a:+1-2?[*3][];z:", []string{"around T "}, "a:+1-2?[*3][];z:"},
		{"a:PCb;b:P", []string{"before N +1", "around Ca ", "after Wz P", "before &PCb +2", "around !T KK"}, "a:PCb;b:P"},
		// Just those whose cuts match, in the order of the list.
		{"a:PCbPCa;b:PCb", []string{"before P +1", "before Wa +2", "around Cb K+3K", "after !Cb -4", "before T +5"}, "a:+1+2+5P-4+2+5Cb+3+5Cb+1+2+5P-4+2+5Ca-4;b:+1+5P-4+5Cb+3+5Cb"},
		{"a:PCaPCb;b:", []string{"around Ca ", "around P KK", "around Cb P"}, "a:PPPPP;b:"},
		{"a:Cb;b:Cc;c:P", []string{"around |CcP K+1K", "after Wc -2", "before !Wc *3"}, "a:*3Cb;b:*3Cc+1*3Cc;c:P-2+1P-2"},
		// The prints of advice are no shadows, and what is called is another procedure.
		{"a:P", []string{"before P P", "before T P", "around Wa PKP"}, "a:PPPPP"}, {"a:Cb;b:+1", []string{"before Wb P", "after Cb P"}, "a:CbP;b:+1"},
		// All goes.
		{"a:PCb;b:?[P][Cb]", []string{"around T "}, "a:;b:?[][]"}, {"a:PCbP;b:P", []string{"around T +1"}, "a:+1+1+1;b:+1"},
	} {
		checkInlined(t, c.w, aspectsOf(t, c.advice...), c.want)
	}
}

func TestInliningWithinChoices(t *testing.T) {
	list := aspectsOf(t, "before P +1", "around Ca ?[K][P]")
	for _, c := range [][2]string{
		{"?[P][]", "?[+1P][]"}, {"?[][P]", "?[][+1P]"}, {"?[Ca][P]", "?[?[Ca][P]][+1P]"}, {"P?[P][P]P", "+1P?[+1P][+1P]+1P"}, {"?[-1P+2][*3]", "?[-1+1P+2][*3]"},
		{"?[?[P][Ca]P][-1?[][?[P][-2]]]", "?[?[+1P][?[Ca][P]]+1P][-1?[][?[+1P][-2]]]"}, {"?[][]?[?[][]][]", "?[][]?[?[][]][]"}, {"?[PP][CaCa]", "?[+1P+1P][?[Ca][P]?[Ca][P]]"},
	} {
		checkInlined(t, "a:"+c[0], list, "a:"+c[1])
		checkInlined(t, "a:"+c[0]+";b:"+c[0], list, "a:"+c[1]+";b:"+c[1])
		checkInlinedFrom(t, "a:"+c[0]+";b:"+c[0], "a", list, "a:"+c[1]+";b:"+c[0])
	}
	front, behind := strings.Repeat("?[", 78), strings.Repeat("][]", 78)
	checkInlined(t, "a:"+front+"P"+behind, list, "a:"+front+"+1P"+behind)
	checkInlined(t, "a:"+front+"P"+behind, aspectsOf(t, "around P "), "a:"+front+behind)
}

func TestCutsThatAreOpenAtShadows(t *testing.T) {
	w := "a:CbP;b:PCb"
	for _, c := range []struct {
		w      string
		advice string
		want   string
	}{
		// Open at one shadow only, though known at all others.
		{w, "before &PFa +1", ""}, {w, "before &WaFb +1", ""}, {w, "before &&WbPFa +1", ""}, {w, "before |CbFa +1", ""}, {w, "before |!PFb +1", ""}, {"a:PPPPPPCb;b:P", "before &PFa +1", ""}, {"a:?[][?[][P]];b:?[Ca][?[Ca][?[Ca][P]]]", "before |CaFa +1", ""},
		{w, "before Fz P", ""}, {w, "around !Fa K", ""}, {w, "after |Fa!Fa ", ""},
		// Of procedures to which no runs come from elsewhere too.
		{"a:;b:P", "before Fa +1", ""}, {"a:P;b:P", "before &PFb +1", ""},
		// Known though a part is open.
		{w, "before &CzFa +1", w}, {w, "before |TFa +1", "a:+1Cb+1P;b:+1P+1Cb"}, {w, "before &FaWa +1", "a:+1Cb+1P;b:PCb"}, {w, "before |WbFb +1", ""}, {w, "before &N|FaFz +1", w}, {"a:PCb;b:Ca", "before |CbFa +1", ""}, {"a:PCb;b:Ca", "before |Ca&WaFa +1", "a:+1P+1Cb;b:+1Ca"},
		// Known where there are no shadows.
		{"a:;b:+1", "before Fa +1", "a:;b:+1"},
	} {
		list := aspectsOf(t, c.advice)
		// The open one may be any of the list, and what it does does not matter.
		front, behind := aspectsOf(t, "around P K", c.advice), aspectsOf(t, c.advice, "before Cz P")
		if c.want == "" {
			checkNotInlined(t, c.w, list, false)
			checkNotInlined(t, c.w, front, false)
			checkNotInlined(t, c.w, behind, false)
			list[0].Kind, list[0].Body = "around", "K"
			checkNotInlined(t, c.w, list, false)
			continue
		}
		checkInlined(t, c.w, list, c.want)
		checkInlined(t, c.w, front, c.want)
		checkInlined(t, c.w, behind, c.want)
	}
	// It is open also where advice in front of it does not proceed.
	checkNotInlined(t, w, aspectsOf(t, "around T ", "before Fa P"), false)
}

func TestLimitOfInlinedPrograms(t *testing.T) {
	k20, k21 := proceeds(20), proceeds(21)
	p := strings.Repeat("P", 400)
	// The program, of which a place is the greater part, is too long though the place is not.
	checkNotInlined(t, "a:P", []impl.Aspect{k20, k20}, true)
	checkInlined(t, "a:P", aspectsOf(t, "before P "+p[:17], "around P "+p[:1]+strings.Repeat("K", 20), "around P "+strings.Repeat("K", 19)), "a:"+p[:398])
	checkNotInlined(t, "a:P", aspectsOf(t, "before P "+p[:18], "around P "+p[:1]+strings.Repeat("K", 20), "around P "+strings.Repeat("K", 19)), true)
	// Many short places.
	checkInlined(t, "a:"+p[:199], []impl.Aspect{proceeds(2)}, "a:"+p[:398])
	checkNotInlined(t, "a:"+p[:200], []impl.Aspect{proceeds(2)}, true)
	checkInlined(t, "a:"+p[:98]+";b:"+p[:99], aspectsOf(t, "around P KK"), "a:"+p[:196]+";b:"+p[:198])
	checkNotInlined(t, "a:"+p[:98]+";b:"+p[:100], aspectsOf(t, "around P KK"), true)
	checkNotInlined(t, "a:"+p[:99]+";b:"+p[:99], aspectsOf(t, "around P KK"), true)
	// What grows is made up for by what goes.
	checkInlined(t, "a:"+p[:197]+";b:"+p[:198], aspectsOf(t, "around &PWa KK", "around &PWb "), "a:"+p[:394]+";b:")
	checkInlined(t, "a:"+p[:198]+";b:"+p[:197], aspectsOf(t, "around &PWb KK", "around &PWa "), "a:;b:"+p[:394])
	checkNotInlined(t, "a:"+p[:198]+";b:"+p[:197], aspectsOf(t, "around &PWa KK", "around &PWb "), true)
	checkInlined(t, "a:"+p[:398], []impl.Aspect{proceeds(1)}, "a:"+p[:398])
	checkInlined(t, "a:"+p[:398], []impl.Aspect{proceeds(0)}, "a:")
	// What is too long only on the way, at one shadow, though what comes of it is short.
	way := []impl.Aspect{proceeds(0), k20, k21}
	for _, c := range [][3]string{{"a:P", "T", "a"}, {"a:PCb;b:P", "&PWb", "b"}, {"a:P;b:?[+1?[P][]][]", "Wb", "b"}, {"a:;b:;c:;d:P;e:", "P", "d"}, {"a:PPPPP;z:P", "&PWz", "z"}, {"a:PCa", "P", "a"}, {"a:CaP", "P", "a"}, {"a:?[P][]Ca", "P", "a"}} {
		list := slices.Clone(way)
		for i := range list {
			list[i].Cut = c[1]
		}
		checkNotInlined(t, c[0], list, true)
		checkNotInlinedFrom(t, c[0], c[2], list, true)
	}
	// It is not where the cut of one of them does not match.
	way[2].Cut = "Cb"
	checkInlined(t, "a:PP", way, "a:")
	checkNotInlined(t, "a:PPCb;b:", way, true)
	checkInlined(t, "a:PPCb;b:", way[:2], "a:;b:")
}

func TestInlineFrom(t *testing.T) {
	w := "a:CbCc;b:Cc;c:P"
	diamond := "a:CbCcP;b:CdP;c:Cd;d:PCe;e:P;f:PCa"
	for _, c := range []struct {
		w, start string
		advice   []string
		want     string
	}{
		{w, "a", nil, w}, {w, "c", []string{"before T +1"}, "a:CbCc;b:Cc;c:+1P"}, {w, "a", []string{"before T +1"}, "a:+1Cb+1Cc;b:+1Cc;c:+1P"},
		{w, "a", []string{"before Fa +1"}, "a:+1Cb+1Cc;b:+1Cc;c:+1P"}, {w, "b", []string{"before Fa +1"}, w}, {w, "b", []string{"before Fb +1"}, "a:CbCc;b:+1Cc;c:+1P"}, {w, "c", []string{"before Fb +1"}, w}, {w, "c", []string{"before Fz +1", "around !Fz K+2"}, "a:CbCc;b:Cc;c:P+2"},
		{w, "a", []string{"around &CcFb KK", "after &CcFa P"}, "a:CbCcP;b:CcPCcP;c:P"}, {w, "b", []string{"around &CcFb KK", "after &CcFa P"}, "a:CbCc;b:CcCc;c:P"},
		{diamond, "a", []string{"before &PFa +1"}, "a:CbCc+1P;b:Cd+1P;c:Cd;d:+1PCe;e:+1P;f:PCa"}, {diamond, "a", []string{"before &PFd +1"}, "a:CbCcP;b:CdP;c:Cd;d:+1PCe;e:+1P;f:PCa"}, {diamond, "a", []string{"before &PFb +1"}, ""}, {diamond, "a", []string{"before &PFf +1"}, diamond}, {diamond, "f", []string{"before &PFf +1"}, "a:CbCc+1P;b:Cd+1P;c:Cd;d:+1PCe;e:+1P;f:+1PCa"},
		{diamond, "d", []string{"before &PFd +1"}, "a:CbCcP;b:CdP;c:Cd;d:+1PCe;e:+1P;f:PCa"}, {diamond, "d", []string{"before Fa +1", "after Fb +1", "around Fc "}, diamond},
		{"a:+1CbP;b:?[P-1Cb][]", "a", []string{"before &PFb +1"}, "a:+1CbP;b:?[+1P-1Cb][]"}, {"a:+1CbP;b:?[P-1Cb][]", "b", []string{"around &TFa ", "before Fb P"}, "a:+1CbP;b:?[PP-1PCb][]"},
		// What a procedure that start does not reach calls, or calls it by, does not matter.
		{"a:P;b:PCa;c:PCb", "a", []string{"around T KK"}, "a:PP;b:PCa;c:PCb"}, {"a:P;b:PCa;c:PCb", "b", []string{"around T KK"}, "a:PP;b:PPCaCa;c:PCb"}, {"a:PCb;b:PCa;c:PCa", "b", []string{"before T +1"}, "a:+1P+1Cb;b:+1P+1Ca;c:PCa"},
		// What may be called is reached, though no run comes to it.
		{"a:?[][?[][*0?[Cb][]]];b:P;c:P", "a", []string{"before P +1"}, "a:?[][?[][*0?[Cb][]]];b:+1P;c:P"},
	} {
		if c.want == "" {
			checkNotInlinedFrom(t, c.w, c.start, aspectsOf(t, c.advice...), false)
		} else {
			checkInlinedFrom(t, c.w, c.start, aspectsOf(t, c.advice...), c.want)
		}
	}
}

func TestCutsThatAreOpenFromStart(t *testing.T) {
	for _, c := range []struct {
		w, start, advice string
		want             string
	}{
		// Open at one shadow only, in a procedure that start reaches.
		{"a:CbCc;b:Cc;c:P", "a", "before &PFb +1", ""}, {"a:CbCc;b:Cc;c:P", "a", "before Fb +1", ""}, {"a:PCbCc;b:PCc;c:PCd;d:", "a", "before &CdFb +1", ""}, {"a:P?[][Cb];b:Ca", "a", "before &PFb +1", ""}, {"a:P?[][Cb];b:Ca", "b", "before &CaFa +1", ""},
		// Known from start, though open by the text alone.
		{"a:CbCc;b:Cc;c:P", "a", "before &PFa +1", "a:CbCc;b:Cc;c:+1P"}, {"a:CbCc;b:Cc;c:P", "b", "before &PFb +1", "a:CbCc;b:Cc;c:+1P"}, {"a:CbCc;b:Cc;c:P", "c", "before &PFb +1", "a:CbCc;b:Cc;c:P"},
		// Open in procedures that start does not reach: they stay as they are.
		{"a:PCb;b:P;c:CbPCd;d:PCc", "a", "before Fa +1", "a:+1P+1Cb;b:+1P;c:CbPCd;d:PCc"}, {"a:PCb;b:P;c:CbPCd;d:PCc", "b", "around |FbFc ", "a:PCb;b:;c:CbPCd;d:PCc"}, {"a:PCb;b:P;c:CbPCd;d:PCc", "c", "before &PFd +1", ""}, {"a:P;b:PCcCd;c:PCd;d:P", "a", "before &PFc +1", "a:P;b:PCcCd;c:PCd;d:P"}, {"a:P;b:PCcCd;c:PCd;d:P", "b", "before &PFc +1", ""}, {"a:P;b:PCcCd;c:PCd;d:P", "c", "before &PFc +1", "a:P;b:PCcCd;c:+1PCd;d:+1P"},
	} {
		list := aspectsOf(t, c.advice)
		checkNotInlined(t, c.w, list, false)
		if c.want == "" {
			checkNotInlinedFrom(t, c.w, c.start, list, false)
		} else {
			checkInlinedFrom(t, c.w, c.start, list, c.want)
		}
	}
}

func TestLimitOfProgramsInlinedFromStart(t *testing.T) {
	p := strings.Repeat("P", 400)
	list := aspectsOf(t, "around P KK")
	// What stays as it is counts for the length of the program, but no place in it does.
	checkInlinedFrom(t, "a:"+p[:97]+";b:"+p[:201], "a", list, "a:"+p[:194]+";b:"+p[:201])
	checkInlinedFrom(t, "a:"+p[:97]+";b:+1"+p[:199], "b", aspectsOf(t, "around P "), "a:"+p[:97]+";b:+1")
	checkInlinedFrom(t, "a:"+p[:98]+";b:"+p[:199], "a", list, "a:"+p[:196]+";b:"+p[:199])
	checkInlinedFrom(t, "a:"+p[:98]+";b:+"+"1"+p[:197], "a", list, "a:"+p[:196]+";b:+1"+p[:197])
	checkNotInlinedFrom(t, "a:"+p[:99]+";b:"+p[:198], "a", list, true)
	checkNotInlinedFrom(t, "a:"+p[:98]+";b:"+p[:200], "a", list, true)
	long := []impl.Aspect{proceeds(20), proceeds(21)}
	checkInlinedFrom(t, "a:+1;b:P", "a", long, "a:+1;b:P")
	checkNotInlinedFrom(t, "a:+1;b:P", "b", long, true)
	checkNotInlinedFrom(t, "a:Cb;b:P", "b", long, true)
	checkNotInlinedFrom(t, "a:Cb;b:", "a", append(aspectsOf(t, "around T "), long...), true)
}

func TestGrowthOf(t *testing.T) {
	for _, c := range []struct {
		w      string
		advice string
		want   int
	}{
		{"a:+1Cb;b:+1", "around Cb PKP", 2}, {"a:+1Cb;b:+1", "around Cb ", -1}, {"a:+1Cb;b:+1", "around Cb +1", 0}, {"a:+1Cb;b:+1", "before N +1", 0}, {"a:", "before T +1", 0},
		{"a:PPPCa?[P][P]", "around T ", -6}, {"a:PPPCa?[P][P]", "around P ?[?[K][]][+1-1]", 20}, {"a:PPPCa?[P][P]", "around P ?[][]", 0}, {"a:PPP;b:PP", "around &PWb ", -2}, {"a:PPP;b:PP", "before P ?[P][P]", 15}, {"a:" + strings.Repeat("P", 398), "around P ", -398},
	} {
		if got, ok := impl.GrowthOf(c.w, aspectsOf(t, c.advice)); got != c.want || !ok {
			t.Errorf("GrowthOf(%q, %q) = %d, %v, want %d", c.w, c.advice, got, ok, c.want)
		}
	}
}

func TestProgramsThatCannotBeInlined(t *testing.T) {
	for _, list := range [][]impl.Aspect{nil, aspectsOf(t, "before T +1"), aspectsOf(t, "around N "), aspectsOf(t, "before Fz P"), {{}}} {
		for _, w := range noPrograms {
			checkNotInlined(t, w, list, false)
			checkNotInlinedFrom(t, w, "a", list, false)
			checkNotInlinedFrom(t, w, "", list, false)
		}
		for _, start := range append([]string{"c", "z", "Ca", "a:", "call"}, wrongNames...) {
			checkNotInlinedFrom(t, "a:PCb;b:P", start, list, false)
			checkNotInlinedFrom(t, "b:P", "a", list, false)
		}
	}
	for b := range 256 {
		if start := string([]byte{byte(b)}); !strings.Contains("ab", start) {
			checkNotInlinedFrom(t, "a:PCb;b:P", start, nil, false)
		} else {
			checkInlinedFrom(t, "a:PCb;b:P", start, nil, "a:PCb;b:P")
		}
	}
}

// TestInliningOfTwentySixProcedures has one procedure for each letter, at just one of which a place may be too long.
func TestInliningOfTwentySixProcedures(t *testing.T) {
	var plain, woven, ring, kept []string
	for i, name := range letters {
		plain = append(plain, string(name)+":P")
		woven = append(woven, string(name)+":+1P")
		ring = append(ring, string(name)+":C"+letters[(i+1)%26:][:1])
		kept = append(kept, string(name)+":")
	}
	kept[25] = "z:P"
	w := strings.Join(plain, ";")
	checkInlined(t, w, aspectsOf(t, "before T +1"), strings.Join(woven, ";"))
	checkInlined(t, strings.Join(ring, ";"), aspectsOf(t, "before P +1"), strings.Join(ring, ";"))
	checkInlinedFrom(t, strings.Join(ring, ";"), "k", aspectsOf(t, "around &CaFq P", "around !Ca "), strings.Join(kept, ";"))
	for i, name := range letters {
		within := string(name)
		just := slices.Clone(plain)
		just[i] = woven[i]
		checkInlined(t, w, aspectsOf(t, "before W"+within+" +1"), strings.Join(just, ";"))
		checkInlinedFrom(t, w, within, aspectsOf(t, "before T +1"), strings.Join(just, ";"))
		long := slices.Repeat(aspectsOf(t, "around W"+within+" "+strings.Repeat("K", 21)), 2)
		checkNotInlined(t, w, long, true)
		checkNotInlined(t, w, append(aspectsOf(t, "around T "), long...), true)
		checkNotInlinedFrom(t, w, within, long, true)
		checkInlinedFrom(t, w, letters[(i+1)%26:][:1], long, w)
		if within != "m" {
			checkNotInlined(t, w, aspectsOf(t, "before &F"+within+"Wm P"), false)
		}
	}
}

// placeText returns the text that stands in place of a statement, and whether neither it nor one on the way is too long.
func placeText(list []impl.Aspect, statement string) (string, bool) {
	if len(list) == 0 {
		return statement, true
	}
	rest, ok := placeText(list[1:], statement)
	text := ""
	switch a := list[0]; a.Kind {
	case "before":
		text = a.Body + rest
	case "after":
		text = rest + a.Body
	default:
		text = strings.ReplaceAll(a.Body, "K", rest)
	}
	if !ok || len(text) > 400 {
		return "", false
	}
	return text, true
}

// An inlinedText is what is told of a program of which the advice is put into the text.
type inlinedText struct {
	text    string
	ok      bool
	isKnown bool
}

// inlineText puts advice into the texts of bodies. must and may have the active procedures that are known where one runs, and may is empty where it stays as it is.
func inlineText(names string, bodies []string, list []impl.Aspect, active func(within string) (must string, may string)) inlinedText {
	fits, isKnown, woven := true, true, make([]string, len(bodies))
	for i, body := range bodies {
		within := names[i : i+1]
		must, may := active(within)
		for k := 0; k < len(body); k++ {
			h, deed := printAt(within), body[k:k+1]
			if deed == "C" {
				h, deed = callAt(body[k+1:k+2], within), body[k:k+2]
				k++
			}
			if deed[0] != 'P' && deed[0] != 'C' || may == "" {
				woven[i] += deed
				continue
			}
			var chosen []impl.Aspect
			for _, a := range list {
				known := knownOf(a.Cut, h, must, may)
				isKnown = isKnown && known != "open"
				if known == "yes" {
					chosen = append(chosen, a)
				}
			}
			placed, ok := placeText(chosen, deed)
			fits = fits && ok
			woven[i] += placed
		}
	}
	areAround := !slices.ContainsFunc(list, func(a impl.Aspect) bool { return a.Kind != "around" && len(a.Body) > 59 })
	text := programText(names, woven)
	if !fits || !isKnown || !areAround || len(text) > 400 {
		return inlinedText{isKnown: isKnown}
	}
	return inlinedText{text, true, isKnown}
}

func TestPlacesAsTexts(t *testing.T) {
	r := rand.New(rand.NewSource(20))
	tooLong := 0
	for range 10000 {
		list := randomAspects(r, "abc")
		for i := range list {
			if r.Intn(4) == 0 {
				list[i] = proceeds(r.Intn(30))
			}
		}
		deed := []string{"P", "Ca", "Cz"}[r.Intn(3)]
		if _, ok := impl.AllAround(list); !ok {
			checkNotPlaced(t, deed, list)
			continue
		}
		if text, ok := placeText(list, deed); ok {
			checkPlaced(t, deed, list, text)
			if _, isBody := impl.StatementsOf(text); !isBody {
				t.Fatalf("%q with %q: %q is no body", deed, list, text)
			}
		} else {
			checkNotPlaced(t, deed, list)
			tooLong++
		}
	}
	if tooLong < 200 || tooLong > 8000 {
		t.Errorf("%d places too long", tooLong)
	}
}

func TestInliningAsTexts(t *testing.T) {
	r := rand.New(rand.NewSource(21))
	found := map[string]int{}
	eachWeaving(r, 4000, func(names string, bodies []string, list []impl.Aspect, start string, _ int) {
		if len(names) > 8 {
			return
		}
		w := programText(names, bodies)
		anywhere := inlineText(names, bodies, list, func(within string) (string, string) { return within, letters })
		sets := activeSets(names, bodies, start)
		from := inlineText(names, bodies, list, func(within string) (string, string) { return mustAndMay(sets[within]) })
		if anywhere.ok {
			checkInlined(t, w, list, anywhere.text)
		} else {
			checkNotInlined(t, w, list, anywhere.isKnown)
		}
		if from.ok {
			checkInlinedFrom(t, w, start, list, from.text)
		} else {
			checkNotInlinedFrom(t, w, start, list, from.isKnown)
		}
		for word, is := range map[string]bool{"inlined": anywhere.ok && anywhere.text != w, "open": !anywhere.isKnown, "too long": anywhere.isKnown && !anywhere.ok, "inlined from": from.ok && from.text != w, "open from": !from.isKnown, "known just from": from.ok && !anywhere.isKnown, "other than from": anywhere.ok && from.ok && from.text != anywhere.text} {
			if is {
				found[word]++
			}
		}
	})
	for _, word := range []string{"inlined", "open", "too long", "inlined from", "open from", "known just from", "other than from"} {
		if found[word] < 50 {
			t.Errorf("too few of some kind: %v", found)
		}
	}
}

// TestInlinedProgramsRunAsWovenOnes runs programs with the advice in their texts, and woven while they run: the outcomes are the same, also their steps.
func TestInlinedProgramsRunAsWovenOnes(t *testing.T) {
	r := rand.New(rand.NewSource(22))
	found := map[string]int{}
	check := func(w string, list []impl.Aspect, inlined string, name string, value int) {
		want, ran := impl.RunWoven(w, list, name, value)
		got, isProgram := impl.RunProgram(inlined, name, value)
		if !ran || !isProgram || impl.FormatOutcome(got) != impl.FormatOutcome(want) {
			t.Fatalf("%q, %q, %q, %d: %q runs as %v, woven %v", w, list, name, value, inlined, got, want)
		}
		if inlined != w {
			found[got.End]++
		}
	}
	eachWeaving(r, 12000, func(names string, bodies []string, list []impl.Aspect, name string, value int) {
		w := programText(names, bodies)
		// Fewer aspects are known more often, and do not become too long.
		list = list[:min(len(list), 1+r.Intn(3))]
		if inlined, ok := impl.InlineAspects(w, list); ok {
			found["inlined"]++
			for i := range names {
				check(w, list, inlined, names[i:i+1], value)
			}
		}
		if inlined, ok := impl.InlineFrom(w, name, list); ok {
			found["inlined from"]++
			check(w, list, inlined, name, value)
		}
	})
	for _, word := range []string{"inlined", "inlined from", "done", "long", "deep"} {
		if found[word] < 100 {
			t.Errorf("too few of some kind: %v", found)
		}
	}
}

// TestInliningAdviceAround inlines the advice around that does the same, and adds aspects that do nothing.
func TestInliningAdviceAround(t *testing.T) {
	r := rand.New(rand.NewSource(23))
	nothing := aspectsOf(t, "around T K", "before T ", "around N ", "after !N ", "before &PCa P")
	same := 0
	eachWeaving(r, 2000, func(names string, bodies []string, list []impl.Aspect, name string, _ int) {
		w := programText(names, bodies)
		checkInlined(t, w, nothing, w)
		checkInlinedFrom(t, w, name, nothing, w)
		all, ok := impl.AllAround(list)
		want, isInlined := impl.InlineAspects(w, list)
		if !ok || !isInlined {
			return
		}
		same++
		checkInlined(t, w, all, want)
		if len(list) < 5 {
			k := r.Intn(len(list) + 1)
			checkInlined(t, w, slices.Insert(slices.Clone(list), k, nothing[r.Intn(5)]), want)
		}
	})
	if same < 300 {
		t.Errorf("just %d programs", same)
	}
}

// TestInliningIsTheSameAgain inlines in several goroutines at once. The arguments stay as they are, beyond their length too.
func TestInliningIsTheSameAgain(t *testing.T) {
	w := "a:CbCcP;b:?[Cc][P]P;c:PCd;d:P;e:PCa"
	room := aspectsOf(t, "around &PFa PKP", "before Cc +1", "around T KK", "before N ", "before T ")
	list, before := room[:2], slices.Clone(room)
	want := "a:Cb+1CcPPP;b:?[+1Cc][PPP]PPP;c:PPPCd;d:PPP;e:PCa"
	var running sync.WaitGroup
	for range 20 {
		running.Add(1)
		go func() {
			defer running.Done()
			for range 50 {
				checkInlinedFrom(t, w, "a", list, want)
				checkNotInlined(t, w, list, false)
				checkPlaced(t, "P", list, "P+1PP")
			}
		}()
	}
	running.Wait()
	if !slices.Equal(room, before) {
		t.Errorf("the arguments became %q", room)
	}
}
