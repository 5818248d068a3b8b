package tests

import (
	"slices"

	"loop.example/prologserver/impl"
)

// slowSearch searches as the document says it, but by recursion: a choice is a call that goes on
// with the next clause, and what a variable stands for is put into all goals at once.
type slowSearch struct {
	program []impl.Clause
	// indexed says that clauses with other keys are left out.
	indexed bool
	most    int
	fuel    int
	// fresh is a number that no variable has, and those behind it.
	fresh   int
	answers []impl.Answer
	end     int
	// left is the greatest number of choices.
	left int
}

// slowGoal is a goal with the level of the call in which its clause was chosen.
type slowGoal struct {
	term  impl.Term
	level int
}

// ended is a level below that of all calls.
const ended = -1

// slowSolve returns what Solve should return for a program, a query and limits that are valid.
func slowSolve(p []impl.Clause, query []impl.Term, most int, fuel int) ([]impl.Answer, int) {
	s := &slowSearch{program: p, most: most, fuel: fuel}
	s.search(query)
	return s.answers, s.end
}

func (s *slowSearch) search(query []impl.Term) {
	var goals []slowGoal
	for _, x := range query {
		goals = append(goals, slowGoal{term: x})
	}
	var values []impl.Term
	for _, v := range impl.QueryVars(query) {
		values = append(values, variable(v))
	}
	if s.run(goals, values, 0, nil) != ended {
		s.end = impl.EndNo
	}
}

func (s *slowSearch) stop(end int) int {
	s.end = end
	return ended
}

// run returns the level of the call to which the search goes back: a cut goes back to the one before
// that of its clause, and the end of the search goes back to none. choices has the levels of the calls
// that go on with another clause.
func (s *slowSearch) run(goals []slowGoal, values []impl.Term, level int, choices []int) int {
	s.left = max(s.left, len(choices))
	if len(goals) == 0 {
		return s.keep(values, level)
	}
	if s.fuel == 0 {
		return s.stop(impl.EndFuel)
	}
	s.fuel--
	first, rest := goals[0], goals[1:]
	switch {
	case !withinLimits(first.term):
		return s.stop(impl.EndLarge)
	case first.term.Name == "!":
		older := slices.DeleteFunc(slices.Clone(choices), func(choice int) bool { return choice >= first.level })
		return min(s.run(rest, values, level, older), first.level)
	case impl.IsBuiltin(first.term.Name, len(first.term.Kids)):
		return s.solve(first.term, rest, values, level, choices)
	}
	return s.call(first.term, rest, values, level, choices)
}

func (s *slowSearch) solve(goal impl.Term, rest []slowGoal, values []impl.Term, level int, choices []int) int {
	switch binds, code := slowCall(goal); code {
	case impl.CallTrue:
		return s.run(replacedGoals(rest, binds), replacedAll(values, binds), level, choices)
	case impl.CallFail:
		return level
	case impl.CallInst:
		return s.stop(impl.EndInst)
	case impl.CallType:
		return s.stop(impl.EndType)
	case impl.CallZero:
		return s.stop(impl.EndZero)
	default:
		return s.stop(impl.EndRange)
	}
}

func (s *slowSearch) call(goal impl.Term, rest []slowGoal, values []impl.Term, level int, choices []int) int {
	clauses := slowClauses(s.program, goal, false)
	if len(clauses) == 0 {
		return s.stop(impl.EndUnknown)
	}
	if s.indexed {
		clauses = slowClauses(s.program, goal, true)
	}
	for i, index := range clauses {
		c := s.program[index]
		s.fresh += 100
		u := &slowUnifier{}
		if !u.unify(moved(c.Head, s.fresh), goal) {
			continue
		}
		var next []slowGoal
		for _, x := range c.Body {
			next = append(next, slowGoal{term: moved(x, s.fresh), level: level})
		}
		left := slices.Clone(choices)
		if i < len(clauses)-1 {
			left = append(left, level)
		}
		binds := u.answer()
		back := s.run(replacedGoals(append(next, rest...), binds), replacedAll(values, binds), level+1, left)
		if back <= level {
			return back
		}
	}
	return level
}

// slowClauses returns the clauses for a goal, whose variables can have any numbers: the candidates, or all.
func slowClauses(p []impl.Clause, goal impl.Term, candidates bool) []int {
	var found []int
	for i, c := range p {
		alike := c.Head.Name == goal.Name && len(c.Head.Kids) == len(goal.Kids)
		if alike && (!candidates || len(goal.Kids) == 0 || mayBeEqual(c.Head.Kids[0], goal.Kids[0])) {
			found = append(found, i)
		}
	}
	return found
}

// mayBeEqual reports whether a and b have the same key as first arguments, or none.
func mayBeEqual(a impl.Term, b impl.Term) bool {
	if a.Kind == impl.TermVar || b.Kind == impl.TermVar {
		return true
	}
	return a.Kind == b.Kind && a.N == b.N && a.Name == b.Name && len(a.Kids) == len(b.Kids)
}

func (s *slowSearch) keep(values []impl.Term, level int) int {
	if len(s.answers) == s.most {
		return s.stop(impl.EndMore)
	}
	var binds []impl.Bind
	for _, v := range variablesOf(values) {
		binds = append(binds, impl.Bind{N: v, Term: variable(len(binds))})
	}
	a := impl.Answer{Values: replacedAll(values, binds)}
	for _, x := range a.Values {
		if !impl.TermValid(x) {
			return s.stop(impl.EndLarge)
		}
	}
	s.answers = append(s.answers, a)
	return level
}

// withinLimits reports whether x is valid but for the numbers of its variables.
func withinLimits(x impl.Term) bool {
	var binds []impl.Bind
	for _, v := range variablesOf([]impl.Term{x}) {
		binds = append(binds, impl.Bind{N: v, Term: variable(0)})
	}
	return impl.TermValid(replaced(x, binds))
}

// variablesOf returns the variables of terms in the order of their first occurrences.
func variablesOf(list []impl.Term) []int {
	var vars []int
	for _, x := range list {
		if x.Kind == impl.TermVar && !slices.Contains(vars, x.N) {
			vars = append(vars, x.N)
		}
		for _, v := range variablesOf(x.Kids) {
			if !slices.Contains(vars, v) {
				vars = append(vars, v)
			}
		}
	}
	return vars
}

// moved returns x with n added to the number of each variable.
func moved(x impl.Term, n int) impl.Term {
	if x.Kind == impl.TermVar {
		return variable(x.N + n)
	}
	y := impl.Term{Kind: x.Kind, N: x.N, Name: x.Name}
	for _, kid := range x.Kids {
		y.Kids = append(y.Kids, moved(kid, n))
	}
	return y
}

func replacedAll(list []impl.Term, binds []impl.Bind) []impl.Term {
	var result []impl.Term
	for _, x := range list {
		result = append(result, replaced(x, binds))
	}
	return result
}

func replacedGoals(list []slowGoal, binds []impl.Bind) []slowGoal {
	var result []slowGoal
	for _, g := range list {
		result = append(result, slowGoal{term: replaced(g.term, binds), level: g.level})
	}
	return result
}

// knownTerm returns a term of few variables, numbers and names, so that two of them can often be unified.
func (s *source) knownTerm(depth int) impl.Term {
	kind := s.below(12)
	switch {
	case kind < 5:
		return variable(s.below(4))
	case kind < 7:
		return number(s.below(3))
	case kind < 9 || depth == 0:
		return structure([]string{"a", "b", "[]"}[s.below(3)])
	case kind == 9:
		return structure("f", s.knownTerm(depth-1))
	case kind == 10:
		return structure(".", s.knownTerm(depth-1), s.knownTerm(depth-1))
	}
	return structure("f", s.knownTerm(depth-1), s.knownTerm(depth-1))
}

// knownGoal returns a plain goal of one of a few names.
func (s *source) knownGoal() impl.Term {
	switch s.below(9) {
	case 0:
		return structure("t")
	case 1, 2:
		return structure("r", s.knownTerm(1), s.knownTerm(1))
	case 3, 4, 5:
		return structure("p", s.knownTerm(2))
	}
	return structure("q", s.knownTerm(1))
}

// bodyGoal returns a goal of any kind. Few of them end a search.
func (s *source) bodyGoal() impl.Term {
	switch s.below(60) {
	case 0:
		return structure("lost", s.knownTerm(1))
	case 1:
		return structure("is", s.knownTerm(1), s.arithmetic(2))
	case 2:
		return structure([]string{"<", ">", "=<", ">=", "=:="}[s.below(5)], s.knownTerm(0), s.knownTerm(0))
	case 3:
		return structure("arg", s.knownTerm(0), s.knownTerm(1), s.knownTerm(1))
	case 4, 5:
		return structure("fail")
	case 6, 7:
		return structure("true")
	case 8, 9, 10:
		return structure([]string{"var", "nonvar", "atom", "int"}[s.below(4)], s.knownTerm(1))
	case 11, 12, 13, 14:
		return structure([]string{"=", "\\=", "=="}[s.below(3)], s.knownTerm(2), s.knownTerm(2))
	case 15, 16, 17, 18, 19, 20:
		return structure("!")
	}
	return s.knownGoal()
}

func (s *source) knownClause() impl.Clause {
	c := impl.Clause{Head: s.knownGoal()}
	if s.below(2) == 0 {
		for range s.below(4) {
			c.Body = append(c.Body, s.bodyGoal())
		}
	}
	return c
}

// knownProgram returns a program with clauses for most of the goals in bodies.
func (s *source) knownProgram() []impl.Clause {
	var p []impl.Clause
	for range 3 + s.below(12) {
		p = append(p, s.knownClause())
	}
	return p
}

func (s *source) knownQuery() []impl.Term {
	var query []impl.Term
	for range 1 + s.below(3) {
		query = append(query, s.bodyGoal())
	}
	return query
}
