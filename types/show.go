package types

import (
	"strconv"

	"mlcore/api"
)

// The levels of what is written: what stands lower than it is asked for stands in brackets.
const (
	levelArrow = iota
	levelProduct
	levelClosed
)

// Show writes a type.
func Show(t api.Type) string {
	w := writer{places: map[int]int{}}
	for i, n := range Variables(t) {
		w.places[n] = i
	}
	if Proper(t) {
		w.write(t, levelArrow)
	}
	return string(w.out)
}

// writer writes a type, with variables named by their places among them all.
type writer struct {
	places map[int]int
	out    []byte
}

func (w *writer) put(text string) { w.out = append(w.out, text...) }

// write writes a type, in brackets if its level is below the least one.
func (w *writer) write(t api.Type, least int) {
	if levelOf(t) < least {
		w.put("(")
		defer w.put(")")
	}
	switch t.Kind {
	case api.TyVar:
		w.variable(t)
	case api.TyCon:
		w.arguments(t.Args)
		w.put(t.Name)
	case api.TyTuple:
		w.row(t.Args, " * ", levelClosed)
	case api.TyArrow:
		w.write(t.Args[0], levelProduct)
		w.put(" -> ")
		w.write(t.Args[1], levelArrow)
	}
}

func levelOf(t api.Type) int {
	switch t.Kind {
	case api.TyArrow:
		return levelArrow
	case api.TyTuple:
		return levelProduct
	}
	return levelClosed
}

func (w *writer) variable(t api.Type) {
	w.put("'")
	if saysCompared(t) {
		w.put("'")
	}
	const letters = 'z' - 'a' + 1
	place := w.places[t.N]
	w.out = append(w.out, byte('a'+place%letters))
	if place >= letters {
		w.put(strconv.Itoa(place / letters))
	}
}

// arguments writes what stands ahead of a name: one by itself, several in brackets.
func (w *writer) arguments(args []api.Type) {
	switch len(args) {
	case 0:
	case 1:
		w.write(args[0], levelClosed)
		w.put(" ")
	default:
		w.put("(")
		w.row(args, ", ", levelArrow)
		w.put(") ")
	}
}

func (w *writer) row(list []api.Type, between string, least int) {
	for i, t := range list {
		if i > 0 {
			w.put(between)
		}
		w.write(t, least)
	}
}
