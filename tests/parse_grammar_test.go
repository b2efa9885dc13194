package tests

import (
	"strconv"
	"strings"
	"testing"

	"loop.example/g00395/impl"
)

// grammar is that of the document, a rule per line, with its repetitions
// written as recursion. No rule is empty.
const grammar = `
program = expr
program = typedecl program
typedecl = type head = cons ;
head = NAME
head = VAR NAME
head = ( VAR , VAR ) NAME
cons = con
cons = con | cons
con = CON
con = CON of ty
ty = tprod
ty = tprod -> ty
tprod = appl
tprod = appl * tprod
appl = tatom
appl = appl NAME
appl = appl ref
tatom = NAME
tatom = VAR
tatom = ( ty )
tatom = ( ty , ty ) NAME
expr = fun NAME -> expr
expr = let NAME = expr in expr
expr = let rec NAME NAME = expr in expr
expr = if expr then expr else expr
expr = match expr with arms end
expr = try expr with NAME -> expr end
expr = set
expr = set ; expr
arms = pat -> expr
arms = pat -> expr | arms
set = cmp
set = cmp := set
cmp = list
cmp = list = list
cmp = list <> list
cmp = list < list
cmp = list <= list
list = sum
list = sum :: list
sum = prod
sum = sum + prod
sum = sum - prod
sum = sum ^ prod
prod = un
prod = prod * un
prod = prod / un
prod = prod % un
un = raise un
un = ref un
un = ! un
un = - un
un = app
app = atom
app = app atom
atom = INT
atom = STR
atom = NAME
atom = CON
atom = true
atom = false
atom = ( )
atom = ( expr )
atom = ( expr , expr )
atom = [ ]
pat = patom
pat = patom :: pat
patom = _
patom = NAME
patom = INT
patom = - INT
patom = true
patom = false
patom = ( )
patom = ( pat )
patom = ( pat , pat )
patom = [ ]
patom = CON
patom = CON patom
`

type rule struct {
	left  string
	right []string
}

// item is a rule of which some symbols have been read since a token.
type item struct{ rule, dot, from int }

// reader reads tokens by Earley's method: steps has the items after every
// token.
type reader struct {
	rules  []rule
	byLeft map[string][]int
	steps  [][]item
}

func newReader() *reader {
	r := &reader{byLeft: map[string][]int{}}
	for _, line := range strings.Split(strings.TrimSpace(grammar), "\n") {
		words := strings.Fields(line)
		r.byLeft[words[0]] = append(r.byLeft[words[0]], len(r.rules))
		r.rules = append(r.rules, rule{words[0], words[2:]})
	}
	first := []item{}
	for _, i := range r.byLeft["program"] {
		first = append(first, item{i, 0, 0})
	}
	r.steps = [][]item{r.closed(first, 0)}
	return r
}

func (r *reader) after(i item) string {
	if right := r.rules[i.rule].right; i.dot < len(right) {
		return right[i.dot]
	}
	return ""
}

// closed adds what the items of the step at a token imply.
func (r *reader) closed(list []item, at int) []item {
	known := map[item]bool{}
	for _, i := range list {
		known[i] = true
	}
	add := func(i item) {
		if !known[i] {
			known[i] = true
			list = append(list, i)
		}
	}
	for k := 0; k < len(list); k++ {
		i := list[k]
		next := r.after(i)
		for _, j := range r.byLeft[next] {
			add(item{j, 0, at})
		}
		if next == "" {
			for _, outer := range r.steps[i.from] {
				if r.after(outer) == r.rules[i.rule].left {
					add(item{outer.rule, outer.dot + 1, outer.from})
				}
			}
		}
	}
	return list
}

// class is the symbol of the grammar for a token.
func class(token string) string {
	switch first := token[0]; {
	case first == '"':
		return "STR"
	case first == '\'':
		return "VAR"
	case first >= '0' && first <= '9':
		return "INT"
	case impl.NameOk(token):
		return "NAME"
	case impl.ConOk(token):
		return "CON"
	}
	return token
}

// read adds a token, if it is permitted at its position.
func (r *reader) read(token string) bool {
	symbol := class(token)
	list := []item{}
	for _, i := range r.steps[len(r.steps)-1] {
		if r.after(i) == symbol {
			list = append(list, item{i.rule, i.dot + 1, i.from})
		}
	}
	if len(list) == 0 {
		return false
	}
	r.steps = append(r.steps, nil)
	r.steps[len(r.steps)-1] = r.closed(list, len(r.steps)-1)
	return true
}

func (r *reader) drop() { r.steps = r.steps[:len(r.steps)-1] }

// whole reports whether the tokens are a program.
func (r *reader) whole() bool {
	for _, i := range r.steps[len(r.steps)-1] {
		if i.from == 0 && r.after(i) == "" && r.rules[i.rule].left == "program" {
			return true
		}
	}
	return false
}

// fixed adds a number of its own to every NAME x, so that no pattern has one
// twice.
func fixed(tokens []string) []string {
	list := []string{}
	for i, s := range tokens {
		if s == "x" {
			s += strconv.Itoa(i)
		}
		list = append(list, s)
	}
	return list
}

// checkAll compares Parse with the grammar for all texts that start with what
// has been read and go on with up to so many of the tokens. It returns the
// number of texts.
func checkAll(t *testing.T, r *reader, tokens []string, more []string, most int) int {
	t.Helper()
	text := strings.Join(fixed(tokens), " ")
	_, code, at := impl.Parse(text)
	if whole := r.whole(); whole && (code != 0 || at != 0) || !whole && (code != 7 || at != len(text)) {
		t.Fatalf("Parse(%q): code %d at %d, but it is %t that it is a program", text, code, at, whole)
	}
	count := 1
	if most == 0 {
		return count
	}
	for _, s := range more {
		longer := append(append([]string{}, tokens...), s)
		if firstStrayVar(longer) < 0 && r.read(s) {
			count += checkAll(t, r, longer, more, most-1)
			r.drop()
			continue
		}
		before := len(text) + 1
		if len(tokens) == 0 {
			before = 0
		}
		checkParseError(t, strings.Join(fixed(longer), " "), 7, before)
		checkParseError(t, strings.Join(fixed(longer), " ")+" 1", 7, before)
		checkParseError(t, strings.Join(fixed(longer), "\n")+" in ( 1", 7, before)
		if t.Failed() {
			t.FailNow()
		}
		count++
	}
	return count
}

// TestAllShortTexts compares Parse with the grammar for all short texts over
// some tokens, each behind a beginning.
func TestAllShortTexts(t *testing.T) {
	everything := "x C 1 \"s\" 'a true false let rec in fun if then else match with end type of raise try ref -> <> <= := :: ( ) [ ] , ; | = < + - * / % ^ ! _"
	for _, c := range []struct {
		before string
		more   string
		most   int
	}{
		{"", everything, 3}, {"", "x C 1 ( ) , [ ]", 6}, {"", "x ( ) := ; < = :: + * - ! raise", 5}, {"", "x - ! ref ^ % <> :=", 6}, {"", "x let rec in = fun ->", 8},
		{"", "x if then else ; C", 8}, {"", "1 try with x -> end", 9}, {"", "1 match with -> | end", 9}, {"( fun x -> ", everything, 2}, {"1 ", everything, 3},
		{"match x with", everything, 2}, {"match x with", "x C 1 - _ ( ) , :: ->", 5}, {"match x with", "true false [ ] ( ) C :: -> 1", 5}, {"match 1 with x -> 1 | ", everything, 2},
		{"match ( 1 ) with x ", "-> 1 | end x ;", 7}, {"try 1 ", everything, 3}, {"let ", everything, 3}, {"let rec x x = ", "x in = ; ->", 5},
		{"type ", "x 'a 'b ( ) , = C", 7}, {"type 'a x = ", everything, 2}, {"type 'a x = C ", "C of | ; x 1 'a", 6}, {"type ( 'a , 'b ) x = C of ", "x 'a 'b ( ) , ref * -> ; |", 5},
		{"type x = C of ", "x ( ) , ref", 7}, {"type x = C ; ", everything, 2}, {"type x = C ; type x = C ; ", "type x = C ; 1", 6},
	} {
		r := newReader()
		tokens := strings.Fields(c.before)
		for _, s := range tokens {
			if !r.read(s) {
				t.Fatalf("%q is no beginning", c.before)
			}
		}
		if count := checkAll(t, r, tokens, strings.Fields(c.more), c.most); count < 50 {
			t.Errorf("only %d texts begin with %q", count, c.before)
		}
	}
}

// firstError is the index of the first token that is not permitted, or the
// number of tokens if the text ends too early, or -1 if it is a program.
func firstError(tokens []string) int {
	r := newReader()
	for i, s := range tokens {
		if !r.read(s) {
			return i
		}
	}
	if r.whole() {
		return -1
	}
	return len(tokens)
}

// firstStrayVar is the index of the first VAR that is not in the HEAD of its
// type or that is there twice, or -1.
func firstStrayVar(tokens []string) int {
	head, inHead := []string{}, false
	for i, s := range tokens {
		switch {
		case s == "type":
			head, inHead = nil, true
		case s == "=":
			inHead = false
		case class(s) == "VAR":
			if strings.Contains(strings.Join(head, " "), s) == inHead {
				return i
			}
			head = append(head, s)
		}
	}
	return -1
}

// TestChangedPrograms changes one token of a random program and compares
// Parse with the grammar.
func TestChangedPrograms(t *testing.T) {
	others := strings.Fields("q Q 1 \"s\" 'k true let rec in fun if then else match with end type of raise try ref -> <> := :: ( ) [ ] , ; | = + - * ! _")
	codes := map[int]int{}
	for seed := range uint32(6000) {
		_, w := randomProgram(seed, []string{" "})
		if len(w.toks) > 150 {
			continue
		}
		tokens := append([]string{}, w.toks...)
		at := w.next(len(tokens))
		switch w.next(4) {
		case 0:
			tokens = append(tokens[:at], tokens[at+1:]...)
		case 1:
			tokens[at] = others[w.next(len(others))]
		case 2:
			tokens = append(tokens[:at], append([]string{others[w.next(len(others))]}, tokens[at:]...)...)
		default:
			tokens = tokens[:at]
		}
		codes[checkChanged(t, tokens)]++
	}
	if codes[0] < 300 || codes[7] < 3000 {
		t.Errorf("the codes are %v", codes)
	}
}

// checkChanged returns the code that it expects.
func checkChanged(t *testing.T, tokens []string) int {
	t.Helper()
	text := strings.Join(tokens, " ")
	wrong, stray := firstError(tokens), firstStrayVar(tokens)
	if stray >= 0 && (wrong < 0 || stray < wrong) {
		wrong = stray
	}
	if wrong < 0 {
		parsed(t, text)
		return 0
	}
	at := len(strings.Join(tokens[:wrong], " "))
	if wrong > 0 && wrong < len(tokens) {
		at++
	}
	checkParseError(t, text, 7, at)
	if t.Failed() {
		t.FailNow()
	}
	return 7
}
