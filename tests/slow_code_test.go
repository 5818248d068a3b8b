package tests

import (
	"fmt"
	"slices"

	"loop.example/prologserver/impl"
)

// slowCompiler makes code as the document says it, as text, with slots in lists.
type slowCompiler struct {
	text string
	// vars has the variables that have a slot, and slots their slots.
	vars, slots []int
	used        int
}

// slowCode returns the text of the code of a valid clause.
func slowCode(c impl.Clause) string {
	s := &slowCompiler{used: impl.MaxArity}
	var left []impl.Term
	var leftSlots []int
	for i, x := range c.Head.Kids {
		switch {
		case x.Kind == impl.TermInt:
			s.line("getint", x.N, i)
		case x.Kind == impl.TermStruct:
			left, leftSlots = append(left, x), append(leftSlots, i)
		case s.slot(x) >= 0:
			s.line("getval", s.slot(x), i)
		default:
			s.vars, s.slots = append(s.vars, x.N), append(s.slots, i)
		}
	}
	for i := 0; i < len(left); i++ {
		s.line("getstr", len(left[i].Kids), leftSlots[i], left[i].Name)
		for _, x := range left[i].Kids {
			if x.Kind == impl.TermStruct {
				left, leftSlots = append(left, x), append(leftSlots, s.used)
				s.line("univar", s.newSlot())
			} else {
				s.argument(x)
			}
		}
	}
	s.body(c.Body)
	return s.text
}

// slowQueryCode returns the text of the code of a valid query.
func slowQueryCode(query []impl.Term) string {
	s := &slowCompiler{used: impl.MaxArity}
	s.body(query)
	return s.text
}

func (s *slowCompiler) line(words ...any) {
	s.text += fmt.Sprintln(words...)
}

func (s *slowCompiler) slot(x impl.Term) int {
	i := slices.Index(s.vars, x.N)
	if i < 0 {
		return -1
	}
	return s.slots[i]
}

func (s *slowCompiler) newSlot() int {
	s.used++
	return s.used - 1
}

func (s *slowCompiler) give(x impl.Term) int {
	s.vars, s.slots = append(s.vars, x.N), append(s.slots, s.newSlot())
	return s.slot(x)
}

func (s *slowCompiler) argument(x impl.Term) {
	switch {
	case x.Kind == impl.TermInt:
		s.line("uniint", x.N)
	case s.slot(x) >= 0:
		s.line("unival", s.slot(x))
	default:
		s.line("univar", s.give(x))
	}
}

func (s *slowCompiler) body(goals []impl.Term) {
	for _, goal := range goals {
		for i, x := range goal.Kids {
			switch {
			case x.Kind == impl.TermInt:
				s.line("putint", x.N, i)
			case x.Kind == impl.TermStruct:
				s.line("putval", s.build(x), i)
			case s.slot(x) >= 0:
				s.line("putval", s.slot(x), i)
			default:
				s.line("putvar", s.give(x), i)
			}
		}
		switch arity := len(goal.Kids); {
		case goal.Name == "!":
			s.line("cut")
		case impl.IsBuiltin(goal.Name, arity):
			s.line("built", arity, goal.Name)
		default:
			s.line("call", arity, goal.Name)
		}
	}
	s.line("end")
}

func (s *slowCompiler) build(x impl.Term) int {
	built := map[int]int{}
	for i, kid := range x.Kids {
		if kid.Kind == impl.TermStruct {
			built[i] = s.build(kid)
		}
	}
	slot := s.newSlot()
	s.line("setstr", len(x.Kids), slot, x.Name)
	for i, kid := range x.Kids {
		if inner, ok := built[i]; ok {
			s.line("unival", inner)
		} else {
			s.argument(kid)
		}
	}
	return slot
}
