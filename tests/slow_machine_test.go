package tests

import (
	"slices"
	"strconv"
	"strings"

	"loop.example/prologserver/impl"
)

// slowMachine executes the texts of code as the document says it. It keeps copies of all that it
// goes on with, in which variables that stand for terms are replaced by these at once.
type slowMachine struct {
	program []impl.Clause
	code    [][]string
	most    int
	fuel    int
	// fresh is a number that no variable has, and those behind it.
	fresh   int
	now     slowState
	choices []slowChoice
	// asked has the slots of the variables of the query, in the order of QueryVars.
	asked   []int
	counts  impl.Counts
	trace   []string
	answers []impl.Answer
	end     int
}

// slowState has the query and the clauses whose end was not executed yet, and the arguments that were put.
type slowState struct {
	frames []slowFrame
	args   []impl.Term
}

type slowFrame struct {
	code  []string
	next  int
	slots map[int]impl.Term
	// choices is the number of choices when the code began.
	choices int
}

type slowChoice struct {
	state   slowState
	goal    impl.Term
	clauses []int
}

// running is the end of an execution that goes on.
const running = -1

// slowRun returns the execution of a query for a program with limits that are valid, at its end.
func slowRun(p []impl.Clause, query []impl.Term, most int, fuel int) *slowMachine {
	m := &slowMachine{program: p, most: most, fuel: fuel, fresh: 1000, end: running}
	for _, c := range p {
		m.code = append(m.code, strings.Split(slowCode(c), "\n"))
	}
	s := &slowCompiler{used: impl.MaxArity}
	s.body(query)
	for _, v := range impl.QueryVars(query) {
		m.asked = append(m.asked, s.slots[slices.Index(s.vars, v)])
	}
	m.now.frames = []slowFrame{{code: strings.Split(s.text, "\n"), slots: map[int]impl.Term{}}}
	for m.end == running {
		m.step()
	}
	return m
}

// changed returns a copy of a state with some variables replaced.
func (s slowState) changed(binds []impl.Bind) slowState {
	t := slowState{args: replacedAll(s.args, binds)}
	for _, f := range s.frames {
		slots := map[int]impl.Term{}
		for slot, x := range f.slots {
			slots[slot] = replaced(x, binds)
		}
		t.frames = append(t.frames, slowFrame{code: f.code, next: f.next, slots: slots, choices: f.choices})
	}
	return t
}

func (m *slowMachine) top() *slowFrame {
	return &m.now.frames[len(m.now.frames)-1]
}

// instruction returns the words of the next instruction, which is executed now.
func (m *slowMachine) instruction() []string {
	f := m.top()
	f.next++
	m.counts.Instrs++
	return strings.Fields(f.code[f.next-1])
}

func digits(word string) int {
	n, err := strconv.Atoi(word)
	if err != nil {
		panic(err)
	}
	return n
}

func (m *slowMachine) unify(a impl.Term, b impl.Term) bool {
	u := &slowUnifier{}
	if !u.unify(a, b) {
		return false
	}
	m.now = m.now.changed(u.answer())
	return true
}

func (m *slowMachine) newVariable() impl.Term {
	m.fresh++
	return variable(m.fresh)
}

func (m *slowMachine) step() {
	words := m.instruction()
	slots := m.top().slots
	switch words[0] {
	case "setstr":
		// The kids come first: they can put variables into slots.
		kids := m.described(digits(words[1]))
		slots[digits(words[2])] = structure(words[3], kids...)
	case "putvar":
		slots[digits(words[1])] = m.newVariable()
		m.now.args = append(m.now.args, slots[digits(words[1])])
	case "putval":
		m.now.args = append(m.now.args, slots[digits(words[1])])
	case "putint":
		m.now.args = append(m.now.args, number(digits(words[1])))
	case "call", "built":
		m.take(structure(words[2], m.now.args...))
	case "cut":
		m.take(structure("!"))
	case "end":
		m.leave()
	default:
		panic(words[0])
	}
}

// described returns the arguments of a structure that is built.
func (m *slowMachine) described(arity int) []impl.Term {
	slots := m.top().slots
	var kids []impl.Term
	for range arity {
		words := m.instruction()
		n := digits(words[1])
		switch words[0] {
		case "univar":
			slots[n] = m.newVariable()
			kids = append(kids, slots[n])
		case "unival":
			kids = append(kids, slots[n])
		case "uniint":
			kids = append(kids, number(n))
		}
	}
	return kids
}

func (m *slowMachine) take(goal impl.Term) {
	if m.fuel == 0 {
		m.counts.Instrs--
		m.end = impl.EndFuel
		return
	}
	m.fuel--
	m.counts.Goals++
	m.now.args = nil
	if !withinLimits(goal) {
		m.end = impl.EndLarge
		return
	}
	if list, ok := numberedAnew(goal); ok {
		m.trace = append(m.trace, impl.FormatTerm(list[0]))
	}
	switch {
	case goal.Name == "!":
		m.choices = m.choices[:m.top().choices]
	case impl.IsBuiltin(goal.Name, len(goal.Kids)):
		m.solve(goal)
	case len(slowClauses(m.program, goal, false)) == 0:
		m.end = impl.EndUnknown
	case !m.try(slowChoice{state: m.now, goal: goal, clauses: slowClauses(m.program, goal, true)}):
		m.back()
	}
}

// numberedAnew returns terms with variables numbered from 0 on, and whether they are valid then.
func numberedAnew(list ...impl.Term) ([]impl.Term, bool) {
	var binds []impl.Bind
	for _, v := range variablesOf(list) {
		binds = append(binds, impl.Bind{N: v, Term: variable(len(binds))})
	}
	list = replacedAll(list, binds)
	return list, !slices.ContainsFunc(list, func(x impl.Term) bool { return !impl.TermValid(x) })
}

func (m *slowMachine) solve(goal impl.Term) {
	binds, code := slowCall(goal)
	switch code {
	case impl.CallTrue:
		m.now = m.now.changed(binds)
	case impl.CallFail:
		m.back()
	default:
		m.end = map[int]int{impl.CallInst: impl.EndInst, impl.CallType: impl.EndType, impl.CallZero: impl.EndZero, impl.CallRange: impl.EndRange}[code]
	}
}

func (m *slowMachine) leave() {
	if len(m.now.frames) > 1 {
		m.now.frames = m.now.frames[:len(m.now.frames)-1]
		return
	}
	if len(m.answers) == m.most {
		m.end = impl.EndMore
		return
	}
	var values []impl.Term
	for _, slot := range m.asked {
		values = append(values, m.top().slots[slot])
	}
	values, ok := numberedAnew(values...)
	if !ok {
		m.end = impl.EndLarge
		return
	}
	m.answers = append(m.answers, impl.Answer{Values: values})
	m.back()
}

func (m *slowMachine) back() {
	for len(m.choices) > 0 {
		last := m.choices[len(m.choices)-1]
		m.choices = m.choices[:len(m.choices)-1]
		m.counts.Backs++
		if m.try(last) {
			return
		}
	}
	m.end = impl.EndNo
}

func (m *slowMachine) try(c slowChoice) bool {
	for i, index := range c.clauses {
		slots := map[int]impl.Term{}
		for slot, x := range c.goal.Kids {
			slots[slot] = x
		}
		m.now = c.state.changed(nil)
		m.now.frames = append(m.now.frames, slowFrame{code: m.code[index], slots: slots, choices: len(m.choices)})
		if !m.head() {
			continue
		}
		if behind := c.clauses[i+1:]; len(behind) > 0 {
			m.choices = append(m.choices, slowChoice{state: c.state, goal: c.goal, clauses: behind})
		}
		m.counts.Choices = max(m.counts.Choices, len(m.choices))
		return true
	}
	return false
}

// head executes the instructions of a head, and reports whether all could be unified.
func (m *slowMachine) head() bool {
	for strings.HasPrefix(m.top().code[m.top().next], "get") {
		words := m.instruction()
		n, slot := digits(words[1]), digits(words[2])
		held := m.top().slots[slot]
		fits := true
		switch {
		case words[0] == "getval":
			fits = m.unify(held, m.top().slots[n])
		case words[0] == "getint":
			fits = m.unify(held, number(n))
		case held.Kind == impl.TermVar:
			kids := m.described(n)
			fits = m.unify(held, structure(words[3], kids...))
		case held.Kind != impl.TermStruct || held.Name != words[3] || len(held.Kids) != n:
			fits = false
		default:
			fits = m.looked(slot, n)
		}
		if !fits {
			return false
		}
	}
	return true
}

// looked looks at the arguments of the structure in a slot.
func (m *slowMachine) looked(slot int, arity int) bool {
	for i := range arity {
		words := m.instruction()
		n := digits(words[1])
		slots := m.top().slots
		kid := slots[slot].Kids[i]
		switch {
		case words[0] == "univar":
			slots[n] = kid
		case words[0] == "unival" && !m.unify(slots[n], kid):
			return false
		case words[0] == "uniint" && !m.unify(number(n), kid):
			return false
		}
	}
	return true
}
