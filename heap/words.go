package heap

const maxTag = 65535

// What a word is.
const (
	number uint8 = iota
	address
	head
)

// word is what stands in a cell. It says itself what it is, so that no address that is
// handed in, be it into the midst of a thing, makes a head out of a field.
type word struct {
	n     int   // the number or the address; of a head, how many fields are behind it
	moved int32 // of a head whose thing was moved: 1 and the place of the new one
	tag   uint16
	kind  uint8
	part  uint8
}

// end is the address of the next thing.
func (h *Heap) end() int { return h.first + len(h.words) }

// take takes so many cells behind the last thing.
func (h *Heap) take(n int) []word {
	at := len(h.words)
	h.words = append(h.words, make([]word, n)...)
	return h.words[at:]
}

// thing is the head and the fields of the thing at an address: none, where no thing lies.
func (h *Heap) thing(a int) []word {
	if h == nil || a < h.first || a >= h.end() {
		return nil
	}
	rest := h.words[a-h.first:]
	if rest[0].part != head {
		return nil
	}
	return rest[:rest[0].n+1]
}

func (h *Heap) head(a int) word {
	if t := h.thing(a); t != nil {
		return t[0]
	}
	return word{}
}

func (h *Heap) field(a, i int) *word {
	t := h.thing(a)
	if i < 0 || i >= len(t)-1 {
		return nil
	}
	return &t[i+1]
}
