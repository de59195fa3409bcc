package impl

import (
	"slices"
	"strings"
)

// Limits of programs.
const (
	MaxProgram = 400
	MaxProcs   = 26
)

// wrongSign is what a reader panics with.
const wrongSign = "sign that cannot stand here"

// bodySigns are the signs that begin the statements of a body.
const bodySigns = "+-*PC?"

// A statement is one of a body; its text has those within it.
type statement interface {
	text() string
}

type changeStatement struct {
	sign  byte
	digit byte
}

type printStatement struct{}

type callStatement struct {
	name byte
}

type choiceStatement struct {
	first  []statement
	second []statement
}

// A proceedStatement stands only in advice.
type proceedStatement struct{}

func (s changeStatement) text() string { return string([]byte{s.sign, s.digit}) }

func (s printStatement) text() string { return "P" }

func (s callStatement) text() string { return string([]byte{'C', s.name}) }

func (s choiceStatement) text() string {
	return "?[" + bodyText(s.first) + "][" + bodyText(s.second) + "]"
}

func (s proceedStatement) text() string { return "K" }

func bodyText(list []statement) string {
	var b strings.Builder
	for _, s := range list {
		b.WriteString(s.text())
	}
	return b.String()
}

// A reader takes the signs of a body one by one. It panics at a sign that
// cannot stand where it does, so that its steps need not hand failures on.
type reader struct {
	// signs are those that may begin a statement.
	signs string
	open  []unfinishedBody
	// pending is the sign whose statement still lacks what must follow it, 0 if
	// there is none; it is ']' between the two bodies of a choice.
	pending rune
}

// An unfinishedBody is a body whose end was not read yet; first is the body in
// front of it if it is the second one of a choice.
type unfinishedBody struct {
	list     []statement
	first    []statement
	isSecond bool
}

func readBody(text string) ([]statement, bool) {
	return readStatements(text, MaxProgram, bodySigns)
}

// readStatements is the face of the reader: what panics inside is no text of
// statements that begin with these signs.
func readStatements(text string, most int, signs string) (list []statement, ok bool) {
	defer func() {
		if recover() != nil {
			list, ok = nil, false
		}
	}()
	if len(text) > most {
		return nil, false
	}
	r := reader{signs: signs, open: []unfinishedBody{{}}}
	for _, sign := range text {
		r.take(sign)
	}
	return r.finish(), true
}

func (r *reader) take(sign rune) {
	pending := r.pending
	r.pending = 0
	switch pending {
	case '+', '-', '*':
		r.add(changeStatement{byte(pending), signBetween(sign, '0', '9')})
	case 'C':
		r.add(callStatement{signBetween(sign, 'a', 'z')})
	case '?', ']':
		signBetween(sign, '[', '[')
		r.openBody(pending)
	default:
		r.begin(sign)
	}
}

// begin takes a sign in front of which all statements are complete.
func (r *reader) begin(sign rune) {
	switch {
	case sign == ']':
		r.closeBody()
	case !strings.ContainsRune(r.signs, sign):
		panic(wrongSign)
	case sign == 'P':
		r.add(printStatement{})
	case sign == 'K':
		r.add(proceedStatement{})
	default:
		r.pending = sign
	}
}

func (r *reader) add(s statement) {
	last := &r.open[len(r.open)-1]
	last.list = append(last.list, s)
}

// openBody begins the first body of a choice behind '?', and turns it into the
// second one, which is still to be read, behind ']'.
func (r *reader) openBody(behind rune) {
	if behind == '?' {
		r.open = append(r.open, unfinishedBody{})
		return
	}
	last := &r.open[len(r.open)-1]
	*last = unfinishedBody{first: last.list, isSecond: true}
}

func (r *reader) closeBody() {
	last := len(r.open) - 1
	if last == 0 {
		panic(wrongSign)
	}
	body := r.open[last]
	if !body.isSecond {
		r.pending = ']'
		return
	}
	r.open = r.open[:last]
	r.add(choiceStatement{body.first, body.list})
}

func (r *reader) finish() []statement {
	if r.pending != 0 || len(r.open) != 1 {
		panic(wrongSign)
	}
	return r.open[0].list
}

func signBetween(sign rune, least rune, most rune) byte {
	if sign < least || sign > most {
		panic(wrongSign)
	}
	return byte(sign)
}

// eachStatement visits statements in the order of the text, each one before
// those within it.
func eachStatement(list []statement, visit func(statement)) {
	for _, s := range list {
		visit(s)
		if c, ok := s.(choiceStatement); ok {
			eachStatement(c.first, visit)
			eachStatement(c.second, visit)
		}
	}
}

// replaceEach returns statements with others in place of each one that is no
// choice, those within choices included.
func replaceEach(list []statement, replace func(statement) []statement) []statement {
	replaced := make([]statement, 0, len(list))
	for _, s := range list {
		switch s := s.(type) {
		case choiceStatement:
			s.first = replaceEach(s.first, replace)
			s.second = replaceEach(s.second, replace)
			replaced = append(replaced, s)
		default:
			replaced = append(replaced, replace(s)...)
		}
	}
	return replaced
}

func renameCalls(list []statement, from byte, to byte) []statement {
	return replaceEach(list, func(s statement) []statement {
		if c, ok := s.(callStatement); ok && c.name == from {
			s = callStatement{to}
		}
		return []statement{s}
	})
}

// A letterSet has a bit for each letter, that of 'a' counting least.
type letterSet uint32

func oneLetter(name byte) letterSet { return 1 << (name - 'a') }

func (s letterSet) has(name byte) bool { return s&oneLetter(name) != 0 }

func (s letterSet) text() string {
	var b strings.Builder
	for name := byte('a'); name <= 'z'; name++ {
		if s.has(name) {
			b.WriteByte(name)
		}
	}
	return b.String()
}

// letterOf returns the letter that a name is.
func letterOf(name string) (byte, bool) {
	if len(name) != 1 || name[0] < 'a' || name[0] > 'z' {
		return 0, false
	}
	return name[0], true
}

type procedure struct {
	name byte
	body []statement
}

// calls returns the procedures that are called in the body.
func (p procedure) calls() letterSet {
	var called letterSet
	eachStatement(p.body, func(s statement) {
		if c, ok := s.(callStatement); ok {
			called |= oneLetter(c.name)
		}
	})
	return called
}

func (p procedure) size() int {
	n := 0
	eachStatement(p.body, func(statement) { n++ })
	return n
}

// A program is its procedures in the order of their names.
type program []procedure

// readProgram needs no check of MaxProcs: ascending letters are never more.
func readProgram(w string) (program, bool) {
	if len(w) > MaxProgram {
		return nil, false
	}
	var p program
	for _, part := range strings.Split(w, ";") {
		next, ok := readProcedure(part)
		if !ok || len(p) > 0 && p[len(p)-1].name >= next.name {
			return nil, false
		}
		p = append(p, next)
	}
	return p, p.callsOwn()
}

func readProcedure(text string) (procedure, bool) {
	name, body, found := strings.Cut(text, ":")
	letter, isLetter := letterOf(name)
	list, isBody := readBody(body)
	return procedure{letter, list}, found && isLetter && isBody
}

// callsOwn reports whether only procedures of the program are called.
func (p program) callsOwn() bool {
	names := p.names()
	for _, each := range p {
		if each.calls()&^names != 0 {
			return false
		}
	}
	return true
}

func (p program) names() letterSet {
	var names letterSet
	for _, each := range p {
		names |= oneLetter(each.name)
	}
	return names
}

func (p program) text() string {
	parts := make([]string, 0, len(p))
	for _, each := range p {
		parts = append(parts, string([]byte{each.name, ':'})+bodyText(each.body))
	}
	return strings.Join(parts, ";")
}

// fittingText returns the text of a program, if it is not too long for one.
func (p program) fittingText() (string, bool) {
	text := p.text()
	if len(text) > MaxProgram {
		return "", false
	}
	return text, true
}

// find returns the index at which a procedure stands or would be put.
func (p program) find(name byte) (int, bool) {
	return slices.BinarySearchFunc(p, name, func(each procedure, name byte) int {
		return int(each.name) - int(name)
	})
}

// reach returns the procedures that are called by those of a set, or in one of
// these, and so on.
func (p program) reach(from letterSet) letterSet {
	var reached letterSet
	for from != 0 {
		var called letterSet
		for _, each := range p {
			if from.has(each.name) {
				called |= each.calls()
			}
		}
		from = called &^ reached
		reached |= called
	}
	return reached
}

// findProc reads a program and returns it with the index of a procedure of it.
func findProc(w string, name string) (program, int, bool) {
	p, isProgram := readProgram(w)
	letter, isLetter := letterOf(name)
	if !isProgram || !isLetter {
		return nil, 0, false
	}
	i, found := p.find(letter)
	return p, i, found
}

// ProgramValid reports whether a text is a program.
func ProgramValid(w string) bool {
	_, ok := readProgram(w)
	return ok
}

// ProcsOf returns the names of the procedures of a program.
func ProcsOf(w string) string {
	p, ok := readProgram(w)
	if !ok {
		return ""
	}
	return p.names().text()
}

// BodyOf returns the body of a procedure.
func BodyOf(w string, name string) (string, bool) {
	p, i, ok := findProc(w, name)
	if !ok {
		return "", false
	}
	return bodyText(p[i].body), true
}

// WithBody returns a program in which a procedure has another body.
func WithBody(w string, name string, body string) (string, bool) {
	p, isProgram := readProgram(w)
	letter, isLetter := letterOf(name)
	list, isBody := readBody(body)
	if !isProgram || !isLetter || !isBody {
		return "", false
	}
	i, found := p.find(letter)
	if found {
		p[i].body = list
	} else {
		p = slices.Insert(p, i, procedure{letter, list})
	}
	text := p.text()
	if !ProgramValid(text) {
		return "", false
	}
	return text, true
}

// StatementsOf returns the statements of a body.
func StatementsOf(body string) ([]string, bool) {
	list, ok := readBody(body)
	if !ok {
		return nil, false
	}
	texts := make([]string, 0, len(list))
	for _, s := range list {
		texts = append(texts, s.text())
	}
	return texts, true
}

// SizeOf returns how many statements a program has.
func SizeOf(w string) int {
	p, ok := readProgram(w)
	if !ok {
		return -1
	}
	n := 0
	for _, each := range p {
		n += each.size()
	}
	return n
}

// CallsOf returns the procedures that a procedure calls.
func CallsOf(w string, name string) string {
	p, i, ok := findProc(w, name)
	if !ok {
		return ""
	}
	return p[i].calls().text()
}

// ReachOf returns the procedures that are called from one, directly or not.
func ReachOf(w string, name string) string {
	p, i, ok := findProc(w, name)
	if !ok {
		return ""
	}
	return p.reach(oneLetter(p[i].name)).text()
}

// RenameProc returns a program in which a procedure has another name.
func RenameProc(w string, name string, to string) (string, bool) {
	p, i, ok := findProc(w, name)
	letter, isLetter := letterOf(to)
	if !ok || !isLetter || to != name && p.names().has(letter) {
		return "", false
	}
	from := p[i].name
	p[i].name = letter
	for j := range p {
		p[j].body = renameCalls(p[j].body, from, letter)
	}
	slices.SortFunc(p, func(a procedure, b procedure) int { return int(a.name) - int(b.name) })
	return p.text(), true
}
