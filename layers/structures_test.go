package layers

import (
	"slices"
	"strconv"
	"strings"
)

// inside is what a structure has, by the paths in it; those of its structures behind them.
func (p *program) inside(path string) []entry {
	l := p.some(func(e entry) bool { return strings.HasPrefix(e.path, path+".") })
	for i := range l {
		l[i].path = strings.TrimPrefix(l[i].path, path+".")
	}
	slices.SortStableFunc(l, func(a, b entry) int { return strings.Count(a.path, ".") - strings.Count(b.path, ".") })
	return l
}

// open brings the names of a structure.
func (p *program) open(path string) string {
	p.add(p.inside(path)...)
	return "open " + path
}

// declare declares a structure that has some entries.
func (p *program) declare(name string, list []entry) {
	p.add(entry{path: name, structure: true})
	for _, e := range list {
		e.path = name + "." + e.path
		p.add(e)
	}
}

func (p *program) structureName() string { return p.upper() + "s" }

// rename declares a structure that is there by another name; a signature may show less of it.
func (p *program) rename(e entry) string {
	name, list := p.structureName(), p.inside(e.path)
	sig := ""
	if p.Intn(2) == 0 {
		sig, list = p.signature(list, nil, p.words)
		sig = " : " + sig
	}
	p.declare(name, list)
	return "structure " + name + sig + " = " + e.path
}

// structure declares a structure, with a signature or without; depth 2: at the top.
func (p *program) structure(depth int) string {
	name, front := p.structureName(), ""
	first, before, datas, words := p.ids, p.there, p.datas, p.words
	p.datas = nil
	var l []string
	for range p.Intn(6) {
		l = append(l, p.dec(depth-1))
	}
	own := p.some(func(e entry) bool { return e.id > first })
	slices.SortStableFunc(own, func(a, b entry) int { return strings.Count(a.path, ".") - strings.Count(b.path, ".") })
	sig, mark := "", p.pick(" : ", " : ", " :> ")
	if p.Intn(3) > 0 {
		sig, own = p.signature(own, p.datas, words)
		if depth == 2 && p.Intn(2) == 0 {
			p.count++
			s := "S" + strconv.Itoa(p.count)
			front, sig = "signature "+s+" = "+sig+" ", s
		}
		sig = mark + sig
	}
	p.there, p.datas, p.words = before, datas, words
	p.declare(name, own)
	return front + "structure " + name + sig + " = struct " + strings.Join(l, " ") + " end"
}

// signature shows some of a structure's names, and of its datatypes.
func (p *program) signature(own []entry, datas []datatype, words []string) (string, []entry) {
	var shown []entry
	text := "sig "
	for _, d := range datas {
		words = append(slices.Clip(words), d.word)
		if p.Intn(2) == 0 || slices.ContainsFunc(d.cons, func(c entry) bool { return !c.saidBy(words) || has(shown, c) }) {
			words = words[:len(words)-1]
			continue
		}
		shown = append(shown, d.cons...)
		text += d.text + " "
	}
	for _, e := range own {
		if strings.Contains(e.path, ".") || p.Intn(4) == 0 {
			continue
		}
		s, list := p.specification(e, own, words)
		if s != "" && !has(shown, e) {
			text += s + " "
			shown = append(shown, list...)
		}
	}
	return text + "end", shown
}

func has(list []entry, e entry) bool {
	return slices.ContainsFunc(list, func(o entry) bool { return o.path == e.path && o.structure == e.structure })
}

// specification is what a signature says of a name, and what it shows by it; nothing for what cannot be said.
func (p *program) specification(e entry, own []entry, words []string) (string, []entry) {
	if e.structure {
		var inner []entry
		for _, o := range own {
			if rest, ok := strings.CutPrefix(o.path, e.path+"."); ok {
				o.path = rest
				inner = append(inner, o)
			}
		}
		sig, inner := p.signature(inner, nil, words)
		for i := range inner {
			inner[i].path = e.path + "." + inner[i].path
		}
		return "structure " + e.path + " : " + sig, append([]entry{e}, inner...)
	}
	switch {
	case !e.saidBy(words) || e.con && e.kind.word != "exn":
		return "", nil
	case !e.con:
		return "val " + e.path + " : " + e.kind.text(), []entry{e}
	case e.arg == nil:
		return "exception " + e.path, []entry{e}
	}
	return "exception " + e.path + " of " + e.arg.text(), []entry{e}
}
