package tests

import (
	"slices"
	"strconv"
	"strings"
	"testing"

	"loop.example/g00395/impl"
)

// Values of the second machine are numbers (int), strings, tags and predefined
// functions (the types below), unit (struct{}) and cells.
type (
	vmText  string
	vmTag   string
	vmGiven string
)

// holder is a cell, which leads to others itself in place of an index.
type holder struct {
	kind  int
	at    int
	s     string
	parts [2]any
}

// halt is the panic that ends a run.
type halt struct{ kind, n int }

// vmPlace is a frame, or a handler with its numbers of values and frames.
type vmPlace struct {
	at     int
	env    *holder
	values int
	frames int
}

// vmTally counts the cells that were created, how often all of the heap was
// full, and the cells that were freed then.
type vmTally struct{ created, full, freed int }

// plodder is a machine that follows chapter 13 word for word.
type plodder struct {
	vmTally
	code     impl.Code
	inputs   []int
	most     int
	size     int
	o        impl.Outcome
	at       int
	env      *holder
	stack    []any
	frames   []vmPlace
	handlers []vmPlace
	heap     []*holder
}

// secondRun is RunCode.
func secondRun(c impl.Code, inputs []int, most int, size int) (o impl.Outcome, tally vmTally) {
	if !codeIsRight(c) {
		return o, tally
	}
	m := &plodder{code: c, inputs: inputs, most: min(max(most, 0), 20000), size: min(max(size, 0), 4000)}
	defer func() {
		if end, isEnd := recover().(halt); isEnd {
			o, tally = m.o, m.vmTally
			o.Kind, o.N = end.kind, end.n
			return
		}
		panic("the second machine is wrong")
	}()
	for {
		m.require(m.at < len(c.Ins))
		if m.o.Steps == m.most {
			panic(halt{impl.OutSteps, 0})
		}
		m.o.Steps++
		m.at++
		m.run(c.Ins[m.at-1])
	}
}

func (m *plodder) require(ok bool) {
	if !ok {
		panic(halt{impl.OutBad, 0})
	}
}

func (m *plodder) push(v any) { m.stack = append(m.stack, v) }

func (m *plodder) pop() any {
	m.require(len(m.stack) > 0)
	v := m.stack[len(m.stack)-1]
	m.stack = m.stack[:len(m.stack)-1]
	return v
}

// create adds a cell. The values are kept besides those of the machine.
func (m *plodder) create(h *holder, values ...any) *holder {
	if len(m.heap) == m.size {
		live := map[*holder]bool{}
		values = append(append(values, h.parts[0], h.parts[1], m.env), m.stack...)
		for _, place := range slices.Concat(m.frames, m.handlers) {
			values = append(values, place.env)
		}
		for ; len(values) > 0; values = values[1:] {
			if cell, isCell := values[0].(*holder); isCell && cell != nil && !live[cell] {
				live[cell] = true
				values = append(values, cell.parts[0], cell.parts[1])
			}
		}
		m.full++
		m.freed += len(m.heap) - len(live)
		m.heap = slices.DeleteFunc(m.heap, func(cell *holder) bool { return !live[cell] })
	}
	if len(m.heap) == m.size {
		panic(halt{impl.OutHeap, 0})
	}
	m.created++
	m.heap = append(m.heap, h)
	return h
}

func (m *plodder) bind(v any, values ...any) {
	m.env = m.create(&holder{kind: impl.CellEnv, parts: [2]any{v, m.env}}, values...)
}

// outer is the environment without some bindings.
func (m *plodder) outer(count int) *holder {
	env := m.env
	for range count {
		m.require(env != nil)
		env = env.parts[1].(*holder)
	}
	return env
}

func (m *plodder) raise(n int) {
	if len(m.handlers) == 0 {
		panic(halt{impl.OutRaised, n})
	}
	h := m.handlers[len(m.handlers)-1]
	m.handlers = m.handlers[:len(m.handlers)-1]
	m.require(len(m.stack) >= h.values && len(m.frames) >= h.frames)
	m.stack, m.frames, m.env = m.stack[:h.values], m.frames[:h.frames], h.env
	m.bind(n)
	m.at = h.at
}

func (m *plodder) run(i impl.Ins) {
	cell := func(kind int, parts ...any) {
		h := &holder{kind: kind, at: i.A, s: i.S}
		copy(h.parts[:], parts)
		m.push(m.create(h))
	}
	switch opWords[i.Op-1] {
	case "int":
		m.push(i.A)
	case "str":
		m.push(vmText(i.S))
	case "unit":
		m.push(struct{}{})
	case "given":
		m.push(vmGiven(i.S))
	case "con":
		if i.A == 0 {
			m.push(vmTag(i.S))
		} else {
			cell(impl.CellCon, m.pop())
		}
	case "pair":
		second := m.pop()
		cell(impl.CellPair, m.pop(), second)
	case "fun":
		cell(impl.CellFun, m.env)
	case "ref":
		cell(impl.CellRef, m.pop())
	case "var":
		env := m.outer(i.A)
		m.require(env != nil)
		m.push(env.parts[0])
	case "rec":
		cell(impl.CellRec, m.env)
		m.bind(m.pop())
	case "bind":
		m.bind(m.pop())
	case "drop":
		m.env = m.outer(i.A)
	default:
		m.runMore(i)
	}
}

func (m *plodder) runMore(i impl.Ins) {
	switch opWords[i.Op-1] {
	case "call":
		x := m.pop()
		m.call(m.pop(), x)
	case "ret":
		m.require(len(m.stack) > 0)
		if len(m.frames) == 0 {
			panic(halt{impl.OutDone, 0})
		}
		last := m.frames[len(m.frames)-1]
		m.frames = m.frames[:len(m.frames)-1]
		m.at, m.env = last.at, last.env
	case "jump":
		m.at = i.A
	case "ifnot":
		v := m.pop()
		m.require(v == vmTag("true") || v == vmTag("false"))
		if v == vmTag("false") {
			m.at = i.A
		}
	case "prim":
		b := m.pop()
		m.prim(i.S, m.pop(), b)
	case "raise":
		n, isNumber := m.pop().(int)
		m.require(isNumber)
		m.raise(n)
	case "noarm":
		m.raise(-1)
	case "try":
		m.handlers = append(m.handlers, vmPlace{at: i.A, env: m.env, values: len(m.stack), frames: len(m.frames)})
	case "ok":
		m.require(len(m.handlers) > 0)
		m.require(m.handlers[len(m.handlers)-1].frames == len(m.frames))
		m.handlers = m.handlers[:len(m.handlers)-1]
	case "arm":
		m.arm(i)
	case "get":
		m.push(m.ref(m.pop()).parts[0])
	case "set":
		v := m.pop()
		m.ref(m.pop()).parts[0] = v
		m.push(struct{}{})
	case "pop":
		m.require(m.pop() == struct{}{})
	}
}

func (m *plodder) ref(v any) *holder {
	h, isCell := v.(*holder)
	m.require(isCell && h.kind == impl.CellRef)
	return h
}

func (m *plodder) call(f any, x any) {
	if name, isGiven := f.(vmGiven); isGiven {
		m.callGiven(string(name), x)
		return
	}
	h, isCell := f.(*holder)
	m.require(isCell && (h.kind == impl.CellFun || h.kind == impl.CellRec))
	m.frames = append(m.frames, vmPlace{at: m.at, env: m.env})
	m.at, m.env = h.at, h.parts[0].(*holder)
	if h.kind == impl.CellRec {
		m.bind(f, x)
	}
	m.bind(x)
}

func (m *plodder) callGiven(name string, x any) {
	n, isNumber := x.(int)
	s, isText := x.(vmText)
	switch name {
	case "print":
		m.require(isNumber)
		m.o.Trace = append(m.o.Trace, strconv.Itoa(n))
		m.push(struct{}{})
	case "say":
		m.require(isText)
		m.o.Trace = append(m.o.Trace, string(s))
		m.push(struct{}{})
	case "size":
		m.require(isText)
		m.push(len(s))
	case "read":
		m.require(x == struct{}{})
		if len(m.inputs) == 0 {
			m.raise(-3)
			return
		}
		m.push(impl.Wrap(m.inputs[0]))
		m.inputs = m.inputs[1:]
	}
}

func (m *plodder) prim(sign string, a any, b any) {
	s, isText := a.(vmText)
	r, areTexts := b.(vmText)
	if sign == "^" {
		m.require(isText && areTexts)
		if len(s+r) > 1000 {
			m.raise(-4)
			return
		}
		m.push(s + r)
		return
	}
	n, isNumber := a.(int)
	k, areNumbers := b.(int)
	m.require(isNumber && areNumbers)
	if strings.Contains("/%", sign) && k == 0 {
		m.raise(-2)
		return
	}
	v := result(sign, n, k)
	if v.is(impl.ECon) {
		m.push(vmTag(v.s))
	} else {
		m.push(v.n)
	}
}

func (m *plodder) arm(i impl.Ins) {
	v := m.pop()
	names := []any{}
	if !vmFitting(m.code.Pats[i.A].Nodes, 0, v, &names) {
		m.push(v)
		m.at = i.B
		return
	}
	for k := range names {
		m.bind(names[k], names[k+1:]...)
	}
}

func vmFitting(nodes []impl.PNode, at int, v any, names *[]any) bool {
	n := nodes[at]
	h, isCell := v.(*holder)
	switch n.Kind {
	case impl.PWild:
		return true
	case impl.PVar:
		*names = append(*names, v)
		return true
	case impl.PInt:
		return v == n.N
	case impl.PUnit:
		return v == struct{}{}
	case impl.PPair:
		return isCell && h.kind == impl.CellPair && vmFitting(nodes, n.Kids[0], h.parts[0], names) && vmFitting(nodes, n.Kids[1], h.parts[1], names)
	}
	if len(n.Kids) == 0 {
		return v == vmTag(n.S)
	}
	return isCell && h.kind == impl.CellCon && h.s == n.S && vmFitting(nodes, n.Kids[0], h.parts[0], names)
}

// ran is what RunCode returns, after it has been compared with secondRun.
func ran(t *testing.T, c impl.Code, inputs []int, most int, size int) impl.Outcome {
	t.Helper()
	o, _ := ranTallied(t, c, inputs, most, size)
	return o
}

func ranTallied(t *testing.T, c impl.Code, inputs []int, most int, size int) (impl.Outcome, vmTally) {
	t.Helper()
	got := impl.RunCode(c, inputs, most, size)
	want, tally := secondRun(c, inputs, most, size)
	if !sameOutcome(got, want) {
		t.Fatalf("RunCode is %s, not %s, with at most %d steps and %d cells, for %s", outcomeText(got), outcomeText(want), most, size, brief(codeText(c)))
	}
	return got, tally
}

// codeOf is code of instructions as in CodeText, without their addresses and
// separated by semicolons. A word and a colon ahead of an instruction name its
// address, for which @ and the word stand elsewhere.
func codeOf(t *testing.T, text string, pats string) impl.Code {
	t.Helper()
	c := impl.Code{Pats: patsOf(t, pats)}
	places := map[string]string{}
	lines := [][]string{}
	for _, part := range strings.Split(text, ";") {
		words := strings.Fields(part)
		if name, named := strings.CutSuffix(words[0], ":"); named {
			places["@"+name] = strconv.Itoa(len(lines))
			words = words[1:]
		}
		lines = append(lines, words)
	}
	for _, words := range lines {
		i := impl.Ins{Op: 1 + slices.Index(opWords, words[0])}
		for k, field := range fieldsOf(i.Op) {
			word := words[1+k]
			if place, known := places[word]; known {
				word = place
			}
			n, err := strconv.Atoi(word)
			if field != 'S' && err != nil {
				t.Fatalf("%s is no number in %s", word, brief(text))
			}
			switch {
			case field == 'A':
				i.A = n
			case field == 'B':
				i.B = n
			case i.Op == impl.OpStr:
				i.S, _ = impl.Unquote(word)
			default:
				i.S = word
			}
		}
		c.Ins = append(c.Ins, i)
	}
	if !codeIsRight(c) {
		t.Fatalf("the code is not valid: %s", brief(text))
	}
	return c
}

// checkVm checks how code ends, with the steps, in a large heap.
func checkVm(t *testing.T, text string, pats string, want string, inputs ...int) {
	t.Helper()
	checkVmIn(t, text, pats, 1000, 1000, want, inputs...)
}

// checkVmIn has a limit of steps and a size of the heap.
func checkVmIn(t *testing.T, text string, pats string, most int, size int, want string, inputs ...int) {
	t.Helper()
	if got := outcomeText(ran(t, codeOf(t, text, pats), inputs, most, size)); got != want {
		t.Errorf("%s: the outcome is %s, not %s, with at most %d steps and %d cells", text, got, want, most, size)
	}
}

// checkLeast checks with how many cells code ends as it says, and that it ends
// for want of space with less, and with more as with enough.
func checkLeast(t *testing.T, text string, pats string, least int, want string, inputs ...int) {
	t.Helper()
	checkLeastOf(t, codeOf(t, text, pats), text, least, want, inputs...)
}

func checkLeastOf(t *testing.T, c impl.Code, text string, least int, want string, inputs ...int) {
	t.Helper()
	whole := ran(t, c, inputs, impl.MaxSteps, impl.MaxCells)
	if got := briefOutcome(whole); got != want {
		t.Errorf("%s: the outcome is %s, not %s", brief(text), got, want)
	}
	for size := range least + 10 {
		o := ran(t, c, inputs, impl.MaxSteps, size)
		if size >= least {
			if !sameOutcome(o, whole) {
				t.Errorf("%s: the outcome is %s, not %s, with %d cells", brief(text), outcomeText(o), outcomeText(whole), size)
			}
			continue
		}
		if o.Kind != impl.OutHeap || o.N != 0 || o.Steps > whole.Steps || !beginsWith(whole.Trace, o.Trace) {
			t.Errorf("%s: the outcome is %s with %d cells", brief(text), outcomeText(o), size)
		}
	}
}

// compiledText is the code of a program.
func compiledText(t *testing.T, text string) impl.Code {
	t.Helper()
	c, ok := compiled(t, parsed(t, text))
	if !ok {
		t.Fatalf("%s is not compiled", brief(text))
	}
	return c
}
