package syntax

import (
	"maps"
	"math/rand"
	"slices"
	"strings"
	"testing"

	"mlcore/api"
)

// The chapter's grammar, in its own words, but that what it says of some rules
// in words is written as rules: ldec, sdec (a dec of a structure), and that true
// and false take no pattern.
const grammarText = `
program = dec*
dec     = sdec | "signature" upper "=" sig
sdec    = ldec
        | "type" head "=" type
        | "data" dbind ("and" dbind)*
        | "structure" upper ((":" | ":>") sig)? "=" (("struct" sdec* "end") | spath)
ldec    = "val" pat "=" exp
        | "fun" fbind ("and" fbind)*
        | "exception" con
        | "open" spath
fbind   = lower apat+ (":" type)? "=" exp
head    = (tyvar | "(" tyvar ("," tyvar)* ")")? lower
dbind   = head "=" con ("|" con)*
con     = upper ("of" type)?
sig     = "sig" spec* "end" | upper
spec    = "val" lower ":" type | "type" head ("=" type)? | "data" dbind ("and" dbind)*
        | "exception" con | "structure" upper ":" sig
type    = prod ("->" type)?
prod    = post ("*" post)*
post    = (tyvar | tpath | "(" type ")" | "(" type ("," type)+ ")" tpath) tpath*
pat     = cpat ("::" pat)?
cpat    = spath apat? | apat
apat    = "_" | lower | int | "~" int | str | cpath | "(" ")" | "(" pat ")"
        | "(" pat ("," pat)+ ")" | "(" lower "as" pat ")" | "(" pat ":" type ")"
        | "[" "]" | "[" pat ("," pat)* "]"
exp     = "fn" apat "=>" exp | "if" exp "then" exp "else" exp | "raise" exp | set
set     = or (":=" or)?
or      = and ("orelse" and)*
and     = cmp ("andalso" cmp)*
cmp     = list (("=" | "<>" | "<" | "<=" | ">" | ">=") list)?
list    = sum ("::" list)?
sum     = mul (("+" | "-" | "^") mul)*
mul     = app (("*" | "/" | "%") app)*
app     = un un*
un      = ("~" | "!") un | atom
atom    = int | str | vpath | cpath | "(" ")" | "(" exp ")" | "(" exp ("," exp)+ ")"
        | "(" exp (";" exp)+ ")" | "(" exp ":" type ")" | "[" "]" | "[" exp ("," exp)* "]"
        | "let" ldec* "in" exp "end" | "case" exp "of" rules "end" | "try" exp "with" rules "end"
rules   = pat "=>" exp ("|" pat "=>" exp)*
vpath   = (upper ".")* lower
tpath   = (upper ".")* lower
cpath   = (upper ".")* upper | "true" | "false"
spath   = (upper ".")* upper
`

// production is a rule without |, *, + and ?; symbols with a quote are tokens.
type production struct {
	name  string
	parts []string
}

// grammar is the chapter's, as plain productions.
type grammar struct {
	rules map[string][]production
	words []string // what is still to be read of the grammar's text
	fresh int
}

func newGrammar() *grammar {
	g := &grammar{rules: map[string][]production{}}
	g.words = splitGrammar(grammarText)
	for len(g.words) > 0 {
		name := g.words[0]
		g.words = g.words[2:]
		g.alternatives(name)
	}
	return g
}

// splitGrammar gives the words of the text; a quoted one keeps one quote ahead.
func splitGrammar(text string) []string {
	var out []string
	for i := 0; i < len(text); {
		switch c := text[i]; {
		case c == ' ' || c == '\n':
			i++
		case c == '"':
			end := i + 1 + strings.IndexByte(text[i+1:], '"')
			out = append(out, text[i:end])
			i = end + 1
		case c >= 'a' && c <= 'z':
			end := i
			for text[end] >= 'a' && text[end] <= 'z' {
				end++
			}
			out = append(out, text[i:end])
			i = end
		default:
			out = append(out, string(c))
			i++
		}
	}
	return out
}

func (g *grammar) helper() string {
	g.fresh++
	return "#" + string(rune('0'+g.fresh))
}

func (g *grammar) add(name string, parts ...string) {
	g.rules[name] = append(g.rules[name], production{name, parts})
}

// alternatives reads what stands behind a name, up to the next `name =` or a bracket's end.
func (g *grammar) alternatives(name string) {
	var parts []string
	for len(g.words) > 0 {
		w := g.words[0]
		if w == ")" || len(g.words) > 1 && g.words[1] == "=" {
			break
		}
		g.words = g.words[1:]
		if w == "|" {
			g.add(name, parts...)
			parts = nil
			continue
		}
		parts = append(parts, g.suffix(g.symbol(w)))
	}
	g.add(name, parts...)
}

func (g *grammar) symbol(w string) string {
	if w != "(" {
		return w
	}
	h := g.helper()
	g.alternatives(h)
	g.words = g.words[1:]
	return h
}

func (g *grammar) suffix(s string) string {
	if len(g.words) == 0 || !strings.Contains("*+?", g.words[0]) {
		return s
	}
	h := g.helper()
	switch g.words[0] {
	case "*":
		g.add(h)
		g.add(h, h, s)
	case "+":
		g.add(h, s)
		g.add(h, h, s)
	case "?":
		g.add(h)
		g.add(h, s)
	}
	g.words = g.words[1:]
	return h
}

// item is a production that has been followed up to a dot, from a token on.
type item struct {
	rule *production
	dot  int
	from int
}

// chart has the items after each token (Earley's way: no thought is given to
// how the grammar would be read from the left).
type chart struct {
	g    *grammar
	sets [][]item
}

func newChart(g *grammar, start string) *chart {
	c := &chart{g: g, sets: [][]item{nil}}
	c.fill([]item{{rule: &production{"", []string{start}}}})
	return c
}

// fill completes the newest set from its first items.
func (c *chart) fill(set []item) {
	k := len(c.sets) - 1
	have := map[item]int{}
	for _, it := range set {
		have[it] = 1
	}
	put := func(it item) {
		if have[it] == 0 {
			have[it] = 1
			set = append(set, it)
		}
	}
	for again := true; again; { // empty productions may finish ahead of who asks for them
		before := len(set)
		for i := 0; i < len(set); i++ {
			it := set[i]
			if it.dot < len(it.rule.parts) {
				name := it.rule.parts[it.dot]
				for r := range c.g.rules[name] {
					put(item{&c.g.rules[name][r], 0, k})
				}
				continue
			}
			waiting := c.sets[it.from]
			if it.from == k {
				waiting = set
			}
			for _, w := range waiting {
				if w.dot < len(w.rule.parts) && w.rule.parts[w.dot] == it.rule.name {
					put(item{w.rule, w.dot + 1, w.from})
				}
			}
		}
		again = len(set) > before
	}
	c.sets[k] = set
}

// can asks whether a token can stand next.
func (c *chart) can(token string) bool {
	for _, it := range c.sets[len(c.sets)-1] {
		if it.dot < len(it.rule.parts) && it.rule.parts[it.dot] == token {
			return true
		}
	}
	return false
}

// step goes over a token that can stand next.
func (c *chart) step(token string) {
	var set []item
	for _, it := range c.sets[len(c.sets)-1] {
		if it.dot < len(it.rule.parts) && it.rule.parts[it.dot] == token {
			set = append(set, item{it.rule, it.dot + 1, it.from})
		}
	}
	c.sets = append(c.sets, nil)
	c.fill(set)
}

// done asks whether the tokens are all that was asked for.
func (c *chart) done() bool {
	for _, it := range c.sets[len(c.sets)-1] {
		if it.rule.name == "" && it.dot == 1 {
			return true
		}
	}
	return false
}

// allTokens has every token of the language, as the grammar names it and as it is written.
func allTokens() map[string]string {
	out := map[string]string{"lower": "x", "upper": "C", "tyvar": "'a", "int": "7", "str": `"as"`}
	for _, w := range strings.Fields(`and andalso as case data else end exception false fn fun if in let of open orelse raise sig
		signature struct structure then true try type val with
		=> -> := :: :> <> <= >= ( ) [ ] , ; : | = < > + - * / % ^ ~ ! . _`) {
		out[`"`+w] = w
	}
	return out
}

// holds compares the reader with the chart on one text, and on this text with
// each token behind it: what can stand there is taken, what cannot is told.
func holds(t *testing.T, p parser, c *chart, text string, tokens []string, written map[string]string) {
	t.Helper()
	if c.done() {
		p.fails(t, text, api.OK, 0)
	} else {
		p.fails(t, text, api.ErrSyntax, len(text))
	}
	for _, token := range tokens {
		if !c.can(token) {
			p.fails(t, text+" "+written[token]+" $", api.ErrSyntax, len(text)+1)
		} else {
			_, f := p.read(text + " " + written[token] + " $")
			if f.Kind != api.ErrToken {
				t.Errorf("%s %q: %s can stand next: %v", p.name, text, token, f)
			}
		}
	}
}

// TestP2_2FirstToken goes through random texts that the grammar has begun to
// take, and asks at each token what may come next.
func TestP2_2FirstToken(t *testing.T) {
	g, written := newGrammar(), allTokens()
	tokens := slices.Sorted(maps.Keys(written))
	rnd := rand.New(rand.NewSource(5))
	for i := range 100 {
		p := parsers[i%len(parsers)]
		c, text := newChart(g, p.name), ""
		for range 24 {
			holds(t, p, c, text, tokens, written)
			var may []string
			for _, token := range tokens {
				if c.can(token) {
					may = append(may, token)
				}
			}
			if len(may) == 0 {
				break
			}
			token := may[rnd.Intn(len(may))]
			c.step(token)
			text += " " + written[token]
		}
	}
}

// TestP2_2ShortTexts goes through all texts of few tokens.
func TestP2_2ShortTexts(t *testing.T) {
	g, written := newGrammar(), allTokens()
	tokens := slices.Sorted(maps.Keys(written))
	for _, p := range parsers {
		c := newChart(g, p.name)
		var all func(text string, left int)
		all = func(text string, left int) {
			holds(t, p, c, text, tokens, written)
			for _, token := range tokens {
				if left > 0 && c.can(token) {
					c.step(token)
					all(text+" "+written[token], left-1)
					c.sets = c.sets[:len(c.sets)-1]
				}
			}
		}
		all("", 2)
	}
}
