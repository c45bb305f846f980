package codec

import (
	"slices"

	"tarmac/api"
)

// row is bytes that are laid behind its end, or read from its start.
type row []byte

// step lays the bytes that it is handed, or fills them with those that it reads, and tells whether it could.
type step func(b []byte) bool

// lay has these bytes behind those of the row.
func (r *row) lay(b []byte) bool {
	*r = append(*r, b...)
	return true
}

// read fills these bytes with the row's first ones, and takes them off, if there are as many.
func (r *row) read(b []byte) bool {
	if len(*r) < len(b) {
		return false
	}
	copy(b, *r)
	*r = (*r)[len(b):]
	return true
}

// walk goes over fields: each one's bytes are laid or read, as its step has it.
type walk struct {
	step step
	ok   bool // that could be done so far
}

// bytes goes over bytes, unless something could not be done ahead of them.
func (w *walk) bytes(b []byte) {
	w.ok = w.ok && w.step(b)
}

// integer is the whole numbers that fields are.
type integer interface {
	~int | ~int64 | ~uint8 | ~uint16 | ~uint32 | ~uint64
}

// number goes over a number of so many bytes, the highest one first.
func number[T integer](w *walk, x *T, size int) {
	b := make([]byte, size)
	for i := range b {
		b[size-1-i] = byte(*x >> (8 * i))
	}
	w.bytes(b)
	var n uint64
	for _, c := range b {
		n = n<<8 | uint64(c)
	}
	*x = T(n)
}

// count goes over how many bytes or elements there are. More than may be cannot be done, and there are none then.
func (w *walk) count(n, most int) int {
	w.ok = w.ok && n <= most // ahead of its byte, which could not tell how many they are
	number(w, &n, 1)
	w.ok = w.ok && n <= most
	if !w.ok {
		return 0
	}
	return n
}

// text goes over a text.
func (w *walk) text(s *string) {
	b := make([]byte, w.count(len(*s), api.MaxName))
	copy(b, *s)
	w.bytes(b)
	*s = string(b)
}

// list goes over a list of as many elements as may be, at most, and over each of them.
func list[T any](w *walk, l *[]T, most int, each func(*T)) {
	n := w.count(len(*l), most)
	all := slices.Grow([]T(nil), n)[:n] // a new one: the caller's is not written to
	copy(all, *l)
	for i := range all {
		each(&all[i])
	}
	*l = all
}
