package impl

import (
	"cmp"
	"strconv"
	"strings"
)

// Term is a variable, a number, or a structure; a structure without arguments is an atom.
type Term struct {
	Kind int
	N    int
	Name string
	Kids []Term
}

// Kinds of terms, and limits.
const (
	TermVar    = 1
	TermInt    = 2
	TermStruct = 3
	MaxVar     = 25
	MaxInt     = 999
	MaxArity   = 4
	MaxName    = 6
	MaxNodes   = 120
	MaxDepth   = 30
)

// maxText is the length of the longest text that is read. The text of a valid term
// is shorter: a node adds at most 8 bytes to it, and an operator less.
const maxText = 1000

// Names of lists.
const (
	emptyName = "[]"
	pairName  = "."
)

// signNames are the names that do not consist of letters.
var signNames = [...]string{"+", "-", "*", "//", "=", "\\=", "==", "<", ">", "=<", ">=", "=:=", ".", "[]", "!"}

// node is a term inside the package. Only variable, number and structure are
// nodes, so that a node has none of the fields that a valid Term must leave empty.
type node interface {
	// rank is the place of the node's kind in the standard order.
	rank() int
}

type variable int

type number int

type structure struct {
	name string
	kids []node
}

func (variable) rank() int { return 0 }

func (number) rank() int { return 1 }

// rank is the same for atoms: they come first by the number of their arguments.
func (structure) rank() int { return 2 }

// NameValid reports whether s is the name of an atom.
func NameValid(s string) bool {
	return s != "" && nameLength(s) == len(s)
}

// nameLength returns the length of the longest name with which text begins, or 0.
// Letters that are too many for a name do not begin with one.
func nameLength(text string) int {
	letters := 0
	for letters < len(text) && isLetter(text[letters]) {
		letters++
	}
	if letters > MaxName {
		return 0
	}
	longest := letters
	for _, sign := range signNames {
		if len(sign) > longest && strings.HasPrefix(text, sign) {
			longest = len(sign)
		}
	}
	return longest
}

func isLetter(b byte) bool {
	return b >= 'a' && b <= 'z'
}

// TermValid reports whether t is valid.
func TermValid(t Term) bool {
	_, ok := nodeOf(t)
	return ok
}

// budget is the number of nodes that a term may still have. It bounds the work on terms
// that are not valid: their Kids can contain themselves, and a node can occur in many places.
type budget struct {
	left int
}

// take takes a node of this depth, or returns false if a valid term has none there.
func (b *budget) take(depth int) bool {
	if depth > MaxDepth || b.left == 0 {
		return false
	}
	b.left--
	return true
}

// nodeOf returns the node for t, or false if t is not valid.
func nodeOf(t Term) (node, bool) {
	b := budget{left: MaxNodes}
	return b.makeNode(t, 1)
}

func (b *budget) makeNode(t Term, depth int) (node, bool) {
	if !b.take(depth) {
		return nil, false
	}
	switch {
	case t.Kind == TermStruct:
		return b.makeStructure(t, depth)
	case t.Name != "" || len(t.Kids) > 0:
		return nil, false
	case t.Kind == TermVar && t.N >= 0 && t.N <= MaxVar:
		return variable(t.N), true
	case t.Kind == TermInt && t.N >= -MaxInt && t.N <= MaxInt:
		return number(t.N), true
	}
	return nil, false
}

func (b *budget) makeStructure(t Term, depth int) (node, bool) {
	if t.N != 0 || !NameValid(t.Name) || len(t.Kids) > MaxArity {
		return nil, false
	}
	kids := make([]node, len(t.Kids))
	for i, kid := range t.Kids {
		n, ok := b.makeNode(kid, depth+1)
		if !ok {
			return nil, false
		}
		kids[i] = n
	}
	return structure{name: t.Name, kids: kids}, true
}

// nodesOf returns the nodes for the terms of list, or false if one of them is not valid.
func nodesOf(list []Term) ([]node, bool) {
	nodes := make([]node, len(list))
	for i, t := range list {
		n, ok := nodeOf(t)
		if !ok {
			return nil, false
		}
		nodes[i] = n
	}
	return nodes, true
}

// nodesOfBoth returns the nodes for a and b, or false if one of them is not valid.
func nodesOfBoth(a Term, b Term) (node, node, bool) {
	x, ok := nodeOf(a)
	if !ok {
		return nil, nil, false
	}
	y, ok := nodeOf(b)
	if !ok {
		return nil, nil, false
	}
	return x, y, true
}

// validTermOf returns the Term for n, or false if it would not be valid.
func validTermOf(n node) (Term, bool) {
	b := budget{left: MaxNodes}
	if !b.fits(n, 1) {
		return Term{}, false
	}
	return termOf(n), true
}

// fits reports whether n is within the limits of a valid term. Numbers and names of nodes always are.
func (b *budget) fits(n node, depth int) bool {
	if !b.take(depth) {
		return false
	}
	switch x := n.(type) {
	case variable:
		return x >= 0 && x <= MaxVar
	case structure:
		if len(x.kids) > MaxArity {
			return false
		}
		for _, kid := range x.kids {
			if !b.fits(kid, depth+1) {
				return false
			}
		}
	}
	return true
}

// termOf returns the Term for n, in memory of its own.
func termOf(n node) Term {
	switch x := n.(type) {
	case variable:
		return Term{Kind: TermVar, N: int(x)}
	case number:
		return Term{Kind: TermInt, N: int(x)}
	case structure:
		return Term{Kind: TermStruct, Name: x.name, Kids: termsOf(x.kids)}
	}
	return Term{}
}

func termsOf(nodes []node) []Term {
	if len(nodes) == 0 {
		return nil
	}
	list := make([]Term, len(nodes))
	for i, n := range nodes {
		list[i] = termOf(n)
	}
	return list
}

// kidsPair tells two Kids of the same length that are compared from all others.
type kidsPair struct {
	first  *Term
	second *Term
	length int
}

// TermSame reports whether a and b are equal.
func TermSame(a Term, b Term) bool {
	// A term that is not valid can be too deep for a recursion, and its Kids can
	// contain themselves: each pair of Kids needs to be compared only once.
	seen := map[kidsPair]bool{}
	work := [][2]Term{{a, b}}
	for len(work) > 0 {
		x, y := work[len(work)-1][0], work[len(work)-1][1]
		work = work[:len(work)-1]
		if x.Kind != y.Kind || x.N != y.N || x.Name != y.Name || len(x.Kids) != len(y.Kids) {
			return false
		}
		if len(x.Kids) == 0 {
			continue
		}
		pair := kidsPair{first: &x.Kids[0], second: &y.Kids[0], length: len(x.Kids)}
		if pair.first == pair.second || seen[pair] {
			continue
		}
		seen[pair] = true
		for i := range x.Kids {
			work = append(work, [2]Term{x.Kids[i], y.Kids[i]})
		}
	}
	return true
}

// termCopier copies any terms into memory of their own.
type termCopier struct {
	// left is the number of nodes that a valid term may still have. Kids of these are copied
	// wherever they occur.
	left int
	// copies has copies of Kids of further nodes. A term that is not valid can have more of
	// these than can be copied, or contain itself: its copy has the same Kids in several places.
	copies map[kidsPlace][]Term
	// work has copied Kids, whose own Kids were not copied yet.
	work [][]Term
}

// kidsPlace tells Kids from all others.
type kidsPlace struct {
	first  *Term
	length int
}

func newTermCopier() *termCopier {
	return &termCopier{copies: map[kidsPlace][]Term{}}
}

func (c *termCopier) copyTerms(list []Term) []Term {
	if len(list) == 0 {
		return nil
	}
	copied := make([]Term, len(list))
	for i, t := range list {
		copied[i] = c.copyTerm(t)
	}
	return copied
}

func (c *termCopier) copyTerm(t Term) Term {
	c.left = MaxNodes
	t.Kids = c.copyKids(t.Kids)
	// A term that is not valid can be too deep for a recursion.
	for len(c.work) > 0 {
		last := c.work[len(c.work)-1]
		c.work = c.work[:len(c.work)-1]
		for i := range last {
			last[i].Kids = c.copyKids(last[i].Kids)
		}
	}
	return t
}

// copyKids returns a copy of kids, for whose own Kids there is work to do.
func (c *termCopier) copyKids(kids []Term) []Term {
	if len(kids) == 0 {
		return nil
	}
	place := kidsPlace{first: &kids[0], length: len(kids)}
	if known, ok := c.copies[place]; ok && c.left <= 0 {
		return known
	}
	copied := make([]Term, len(kids))
	copy(copied, kids)
	if c.left <= 0 {
		c.copies[place] = copied
	}
	c.left -= len(kids)
	c.work = append(c.work, copied)
	return copied
}

// FormatTerm returns the text of t.
func FormatTerm(t Term) string {
	n, ok := nodeOf(t)
	if !ok {
		return ""
	}
	w := &termWriter{}
	w.writePart = w.writeTerm
	w.writeTerm(n)
	return string(w.text)
}

// termWriter writes the texts of terms. Arguments and elements are left to writePart,
// because a text with operators differs from that of chapter 1 in these, too.
type termWriter struct {
	text      []byte
	writePart func(n node)
}

func (w *termWriter) writeTerm(n node) {
	switch x := n.(type) {
	case variable:
		w.text = append(w.text, 'A'+byte(x))
	case number:
		w.text = strconv.AppendInt(w.text, int64(x), 10)
	case structure:
		items, tail := splitList(x)
		if len(items) > 0 {
			w.writeList(items, tail)
			return
		}
		w.text = append(w.text, x.name...)
		if len(x.kids) > 0 {
			w.text = append(w.text, '(')
			w.writeParts(x.kids)
			w.text = append(w.text, ')')
		}
	}
}

func (w *termWriter) writeList(items []node, tail node) {
	w.text = append(w.text, '[')
	w.writeParts(items)
	if !isEmptyList(tail) {
		w.text = append(w.text, '|')
		w.writePart(tail)
	}
	w.text = append(w.text, ']')
}

func (w *termWriter) writeParts(nodes []node) {
	for i, n := range nodes {
		if i > 0 {
			w.text = append(w.text, ',')
		}
		w.writePart(n)
	}
}

// splitList returns the elements with which n begins as a list, and what follows the last one.
func splitList(n node) ([]node, node) {
	var items []node
	for {
		pair, ok := n.(structure)
		if !ok || pair.name != pairName || len(pair.kids) != 2 {
			return items, n
		}
		items = append(items, pair.kids[0])
		n = pair.kids[1]
	}
}

// joinList is the inverse of splitList.
func joinList(items []node, tail node) node {
	for i := len(items) - 1; i >= 0; i-- {
		tail = structure{name: pairName, kids: []node{items[i], tail}}
	}
	return tail
}

func isEmptyList(n node) bool {
	atom, ok := n.(structure)
	return ok && atom.name == emptyName && len(atom.kids) == 0
}

// ParseTerm parses the text of a term.
func ParseTerm(text string) (Term, bool) {
	if len(text) > maxText {
		return Term{}, false
	}
	r := &termReader{text: text, names: map[string]string{}}
	r.readPart = r.readTerm
	n, ok := r.readTerm(1)
	if !ok || r.pos != len(text) {
		return Term{}, false
	}
	t := termOf(n)
	// The reader also accepts [a|[b]] and .(a,b), which are not texts, and terms that are past a limit.
	if FormatTerm(t) != text {
		return Term{}, false
	}
	return t, true
}

// termReader reads the texts of terms. Arguments and elements are left to readPart,
// because a text with operators differs from that of chapter 1 in these, too.
// Where reading fails, pos stays at the byte that does not fit.
// Names are kept once, so that a term does not keep its whole text.
type termReader struct {
	text     string
	pos      int
	names    map[string]string
	readPart func(depth int) (node, bool)
}

// readTerm reads a term whose place in the whole term has this depth.
func (r *termReader) readTerm(depth int) (node, bool) {
	rest := r.text[r.pos:]
	switch {
	case rest == "":
		return nil, false
	case rest[0] >= 'A' && rest[0] <= 'Z':
		r.pos++
		return variable(rest[0] - 'A'), true
	case startsNumber(rest):
		return r.readNumber()
	case nameLength(rest) > 0:
		return r.readStructure(depth)
	case r.skip("["):
		return r.readList(depth)
	}
	return nil, false
}

// readKid reads an argument or an element. No term can be deeper than MaxDepth,
// which also bounds the recursion.
func (r *termReader) readKid(depth int) (node, bool) {
	if depth > MaxDepth {
		return nil, false
	}
	return r.readPart(depth)
}

// startsNumber tells a number from the name -, which no digit can follow.
func startsNumber(text string) bool {
	digits := strings.TrimPrefix(text, "-")
	return digits != "" && isDigit(digits[0])
}

func isDigit(b byte) bool {
	return b >= '0' && b <= '9'
}

func (r *termReader) readNumber() (node, bool) {
	end := r.pos + 1
	for end < len(r.text) && isDigit(r.text[end]) {
		end++
	}
	digits := r.text[r.pos:end]
	n, err := strconv.Atoi(digits)
	if err != nil || n < -MaxInt || n > MaxInt || strconv.Itoa(n) != digits {
		return nil, false
	}
	r.pos = end
	return number(n), true
}

func (r *termReader) readStructure(depth int) (node, bool) {
	name := r.readName()
	if !r.skip("(") {
		return structure{name: name}, true
	}
	var kids []node
	for len(kids) == 0 || r.skip(",") {
		kid, ok := r.readKid(depth + 1)
		if !ok {
			return nil, false
		}
		kids = append(kids, kid)
	}
	return structure{name: name, kids: kids}, r.skip(")")
}

func (r *termReader) readName() string {
	length := nameLength(r.text[r.pos:])
	part := r.text[r.pos : r.pos+length]
	r.pos += length
	name, ok := r.names[part]
	if !ok {
		name = strings.Clone(part)
		r.names[name] = name
	}
	return name
}

// readList reads a list behind its opening bracket. Each element is deeper by one than the one before it.
func (r *termReader) readList(depth int) (node, bool) {
	var items []node
	for len(items) == 0 || r.skip(",") {
		item, ok := r.readKid(depth + len(items) + 1)
		if !ok {
			return nil, false
		}
		items = append(items, item)
	}
	var tail node = structure{name: emptyName}
	if r.skip("|") {
		rest, ok := r.readKid(depth + len(items))
		if !ok {
			return nil, false
		}
		tail = rest
	}
	return joinList(items, tail), r.skip("]")
}

// skip goes past sign if it comes next.
func (r *termReader) skip(sign string) bool {
	if !strings.HasPrefix(r.text[r.pos:], sign) {
		return false
	}
	r.pos += len(sign)
	return true
}

// replaceVars returns n with the nodes that replace returns for its variables, from the left.
func replaceVars(n node, replace func(v variable) node) node {
	switch x := n.(type) {
	case variable:
		return replace(x)
	case structure:
		kids := make([]node, len(x.kids))
		for i, kid := range x.kids {
			kids[i] = replaceVars(kid, replace)
		}
		return structure{name: x.name, kids: kids}
	}
	return n
}

// TermVars returns the variables of t.
func TermVars(t Term) []int {
	n, ok := nodeOf(t)
	if !ok {
		return nil
	}
	places := newNumbering()
	replaceVars(n, places.place)
	return places.order
}

// RenumberTerms numbers the variables of terms anew.
func RenumberTerms(list []Term) ([]Term, bool) {
	nodes, ok := nodesOf(list)
	if !ok {
		return nil, false
	}
	places := newNumbering()
	for i, n := range nodes {
		nodes[i] = replaceVars(n, places.place)
	}
	return termsOf(nodes), true
}

// numbering holds the variables that were met, in this order, and their places in it.
type numbering struct {
	places map[variable]variable
	order  []int
}

func newNumbering() *numbering {
	return &numbering{places: map[variable]variable{}}
}

// place returns the variable whose number is the place of v.
func (m *numbering) place(v variable) node {
	place, ok := m.places[v]
	if !ok {
		place = variable(len(m.order))
		m.places[v] = place
		m.order = append(m.order, int(v))
	}
	return place
}

// CompareTerms compares two terms in the standard order.
func CompareTerms(a Term, b Term) int {
	x, y, ok := nodesOfBoth(a, b)
	if !ok {
		return 0
	}
	return compareNodes(x, y)
}

func sameNode(a node, b node) bool {
	return compareNodes(a, b) == 0
}

func compareNodes(a node, b node) int {
	if c := cmp.Compare(a.rank(), b.rank()); c != 0 {
		return c
	}
	// Nodes of one rank are of one type.
	switch x := a.(type) {
	case variable:
		return cmp.Compare(x, b.(variable))
	case number:
		return cmp.Compare(x, b.(number))
	case structure:
		return compareStructures(x, b.(structure))
	}
	return 0
}

func compareStructures(a structure, b structure) int {
	c := cmp.Or(cmp.Compare(len(a.kids), len(b.kids)), cmp.Compare(a.name, b.name))
	for i := 0; c == 0 && i < len(a.kids); i++ {
		c = compareNodes(a.kids[i], b.kids[i])
	}
	return c
}

// MakeList returns the list of some terms.
func MakeList(list []Term, tail Term) (Term, bool) {
	if len(list) > MaxNodes {
		return Term{}, false
	}
	items, ok := nodesOf(list)
	if !ok {
		return Term{}, false
	}
	rest, ok := nodeOf(tail)
	if !ok {
		return Term{}, false
	}
	return validTermOf(joinList(items, rest))
}

// ListOf returns the elements of a list.
func ListOf(t Term) ([]Term, bool) {
	n, ok := nodeOf(t)
	if !ok {
		return nil, false
	}
	items, tail := splitList(n)
	if !isEmptyList(tail) {
		return nil, false
	}
	return termsOf(items), true
}

// CountNodes returns the number of nodes of t.
func CountNodes(t Term) int {
	n, ok := nodeOf(t)
	if !ok {
		return 0
	}
	return countNodes(n)
}

func countNodes(n node) int {
	count := 1
	if s, ok := n.(structure); ok {
		for _, kid := range s.kids {
			count += countNodes(kid)
		}
	}
	return count
}
