package codec

import "podium/api"

// writer holds what has been written, and how the contents of a value of each kind are written.
type writer struct {
	out      []byte
	contents [api.ListV + 1]func(w *writer, v api.Value)
}

// contents returns what writes the contents of a value, by its kind.
func contents() [api.ListV + 1]func(w *writer, v api.Value) {
	return [api.ListV + 1]func(w *writer, v api.Value){
		api.IntV:  writeInt,
		api.TextV: writeText,
		api.ListV: writeList,
	}
}

// value appends the encoding of a value that is well-formed: its kind has a function.
func (w *writer) value(v api.Value) {
	w.out = append(w.out, byte(v.Kind))
	w.contents[v.Kind](w, v)
}

func (w *writer) numeral(u uint64) {
	for u >= 128 {
		w.out = append(w.out, byte(u%128+128))
		u /= 128
	}
	w.out = append(w.out, byte(u))
}

func writeInt(w *writer, v api.Value) {
	w.numeral(heading(v))
}

func writeText(w *writer, v api.Value) {
	w.numeral(heading(v))
	w.out = append(w.out, v.S...)
}

func writeList(w *writer, v api.Value) {
	w.numeral(heading(v))
	for _, x := range v.L {
		w.value(x)
	}
}
