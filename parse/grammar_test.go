package parse

import (
	"errors"
	"slices"
	"strings"
	"testing"

	"tallow/api"
)

// grammar is the chapter's, with what stands any number of times, or may be left out, as rules of their own. A statement that ends with an expression goes on with a parenthesis behind it, so that none that begins with one comes next (more, apart).
const grammar = `
source = block END
block  = | closed block | open more | last
more   = | closed block | apart more | last
closed = local name | local function name fbody | function name fbody | do block end | while expr do block end | for name = expr , expr do block end | if expr then block rest end | break | try block catch name block end
rest   = | else block | elseif expr then block rest
last   = return | return expr
open   = apart | ( expr ) tails index = expr | ( expr ) tails call
apart  = local name = expr | name = expr | begin tails index = expr | begin tails call
begin  = name | int | string | nil | true | false | function fbody | table
tails  = | index tails | call tails
index  = [ expr ] | . name
call   = ( list )
list   = | expr exprs
exprs  = | , expr exprs
fbody  = ( names ) block end
names  = | name others
others = | , name others
expr   = operand operands
operands = | or operand operands | and operand operands | < operand operands | == operand operands | BAR operand operands | ~ operand operands | << operand operands | .. operand operands | + operand operands | - operand operands | * operand operands
operand = not operand | - operand | # operand | ~ operand | begin tails | ( expr ) tails
table  = { } | { item items }
items  = | , item items
item   = name = expr | [ expr ] = expr | expr
`

// terminals are the words of sources, each of some that are alike.
var terminals = strings.Fields("name int string nil true false local function do end while for if then elseif else return break try catch = , . ( ) [ ] { } or and < == BAR ~ << .. + - * not #")

// wordOf is how a terminal stands in a source.
func wordOf(terminal string) string {
	switch terminal {
	case "name":
		return "a"
	case "int":
		return "1"
	case "string":
		return `"end"`
	case "BAR":
		return "|"
	default:
		return terminal
	}
}

func textOf(words []string) string {
	var text strings.Builder
	for _, w := range words {
		text.WriteString(wordOf(w) + "\n")
	}
	return text.String()
}

// state is where words have come to: all that may stand behind them, each as the terminals and rules that are still to come.
type state struct {
	stacks []string
	behind map[string]*state
}

// reader goes from state to state; each is made once.
type reader struct {
	rules map[string][]string
	made  map[string]*state
}

func newReader() (*reader, *state) {
	r := &reader{map[string][]string{}, map[string]*state{}}
	for _, line := range strings.Split(strings.TrimSpace(grammar), "\n") {
		name, rule, _ := strings.Cut(line, "=")
		for _, way := range strings.Split(rule, "|") {
			r.rules[strings.TrimSpace(name)] = append(r.rules[strings.TrimSpace(name)], strings.Join(strings.Fields(way), " "))
		}
	}
	return r, r.of([]string{"source"})
}

// of answers the state of those stacks, each unfolded till a terminal is on top.
func (r *reader) of(stacks []string) *state {
	known := map[string]bool{}
	var ready []string
	for len(stacks) > 0 {
		s := stacks[len(stacks)-1]
		stacks = stacks[:len(stacks)-1]
		if known[s] {
			continue
		}
		known[s] = true
		top, rest, _ := strings.Cut(s, " ")
		ways, isRule := r.rules[top]
		if !isRule {
			ready = append(ready, s)
		}
		for _, way := range ways {
			stacks = append(stacks, strings.TrimSpace(way+" "+rest))
		}
	}
	slices.Sort(ready)
	key := strings.Join(ready, "\n")
	if r.made[key] == nil {
		r.made[key] = &state{ready, map[string]*state{}}
	}
	return r.made[key]
}

// step answers the state behind one more word; it has no stacks if the words begin no source.
func (r *reader) step(s *state, word string) *state {
	if next := s.behind[word]; next != nil {
		return next
	}
	var stacks []string
	for _, stack := range s.stacks {
		top, rest, _ := strings.Cut(stack, " ")
		if top == word {
			stacks = append(stacks, rest)
		}
	}
	s.behind[word] = r.of(stacks)
	return s.behind[word]
}

func (s *state) begins() bool { return len(s.stacks) > 0 }

// ends tells whether the words are a source.
func (r *reader) ends(s *state) bool { return slices.Contains(s.stacks, "END") }

// wrongAt tells which word of words, that go on from the state s, is the first one with which these begin no source: the end is one too; -1: they are a source.
func (r *reader) wrongAt(s *state, words []string) int {
	for i, w := range words {
		if s = r.step(s, w); !s.begins() {
			return i
		}
	}
	if r.ends(s) {
		return -1
	}
	return len(words)
}

// judged wants of words, each on a line of its own, a fault at the line at, none if that is -1.
func judged(t *testing.T, words []string, at int) {
	b, err := Parse(textOf(words))
	if at < 0 {
		if err != nil {
			t.Errorf("%q: %v", strings.Join(words, " "), err)
		}
		return
	}
	var f *api.Fault
	if !errors.As(err, &f) || *f != (api.Fault{Code: api.ErrForm, At: at}) || b != nil {
		t.Errorf("%q: %v, want error 4 at %d", strings.Join(words, " "), err, at)
	}
}

func TestGrammar(t *testing.T) {
	r, first := newReader()
	for text, at := range map[string]int{
		"": -1, "name": 1, "name name": 1, "name ( )": -1, "name = name": -1, "name = name = name": 3, "( name )": 3, "( name ) = name": 3, "( name ) ( )": -1, "return": -1, "return return": 1, "return name name": 2, "name = name ( name ) . name = name": 8, "do end end": 2, "function ( ) end ( )": -1, "end": 0,
	} {
		if got := r.wrongAt(first, strings.Fields(text)); got != at {
			t.Errorf("%q: %d, want %d", text, got, at)
		}
	}
}

// All short texts: each that begins a source, with each word behind it.
func TestEachShortSource(t *testing.T) {
	const most = 4
	r, first := newReader()
	n := 0
	var grow func(s *state, words []string)
	grow = func(s *state, words []string) {
		n++
		judged(t, words, r.wrongAt(first, words))
		if len(words) == most {
			return
		}
		for _, w := range terminals {
			longer := append(slices.Clip(words), w)
			if next := r.step(s, w); next.begins() {
				grow(next, longer)
			} else {
				judged(t, longer, len(words))
				judged(t, append(longer, "name"), len(words))
			}
		}
	}
	grow(first, nil)
	if n < 1000 {
		t.Error(n)
	}
}

// soundSources have each kind of statement and of expression.
func soundSources() []string {
	return []string{
		"local name local name = name local function name ( ) end function name ( name , name ) return end",
		"do name ( ) end while name do break end for name = int , name do name = nil end",
		"if name then elseif name then name ( ) elseif not name then else return name end name ( )",
		"try name ( ) catch name name . name = name end break try catch name end return",
		"name [ int ] . name ( name , string ) ( ) [ name ] = { name , name = int , [ name ] = { } }",
		"return name or name and name < name BAR name ~ name << name .. name + - name * # name",
		"( name ) . name = function ( ) end ( ) name ( ( name + name ) . name )",
		"name = name ( name ) do ( name ) ( ) end { } . name = string ( )",
		"while ( name ) do if name then return end end local name = function ( name ) do end end",
		"function ( ) end ( ) string . name ( ) int [ int ] = true nil ( ) false ( ) name = ~ name",
	}
}

// A word too few, a word too many, another word: of each sound source, at each place.
func TestEachWordThatIsChanged(t *testing.T) {
	r, first := newReader()
	for _, text := range soundSources() {
		words := strings.Fields(text)
		judged(t, words, -1)
		s := first
		for i, w := range words {
			ahead, rest := slices.Clip(words[:i]), words[i+1:]
			judge := func(changed ...string) {
				at := r.wrongAt(s, changed)
				if at >= 0 {
					at += i
				}
				judged(t, append(ahead, changed...), at)
			}
			judge(rest...)
			judge()
			for _, other := range terminals {
				judge(append([]string{other}, rest...)...)
				judge(append([]string{other, w}, rest...)...)
			}
			if i+1 < len(words) {
				judge(append([]string{words[i+1], w}, rest[1:]...)...)
			}
			s = r.step(s, w)
		}
		for _, other := range terminals {
			judged(t, append(slices.Clip(words), other), r.wrongAt(first, append(slices.Clip(words), other)))
		}
	}
}

// draws answers a source of numbers below what it is asked, the same in each run.
func draws() func(below int) int {
	bits := uint64(88172645463325252)
	return func(below int) int {
		bits ^= bits << 13
		bits ^= bits >> 7
		bits ^= bits << 17
		return int(bits % uint64(below))
	}
}

// Words that begin a source, drawn one behind the other, and then one that is drawn from all.
func TestDrawnWords(t *testing.T) {
	r, first := newReader()
	draw := draws()
	sources, wrong := 0, 0
	for range 3000 {
		s, words := first, []string(nil)
		for range draw(40) {
			w := terminals[draw(len(terminals))]
			if next := r.step(s, w); next.begins() && strings.Count(next.stacks[0], " ") < 60 {
				s, words = next, append(words, w)
			}
		}
		words = append(words, terminals[draw(len(terminals))])
		at := r.wrongAt(first, words)
		judged(t, words, at)
		if at < 0 {
			sources++
		} else if at < len(words) {
			wrong++
		}
	}
	if sources < 30 || wrong < 300 {
		t.Error(sources, wrong)
	}
}
