package edi

import "tarmac/api"

// reader reads a text, byte by byte.
type reader struct {
	next   func(byte) api.Errno // a method of the reader's own: what becomes of the byte that comes
	segs   []api.Segment        // those that were ended
	seg    api.Segment          // the one that has begun, as far as its elements were ended
	elem   []string             // the element that has begun, as far as its components were ended
	word   []byte               // the tag or the component that has begun
	within bool                 // whether a segment has begun
}

// newReader is a reader of a text's first byte.
func newReader() *reader {
	r := &reader{}
	r.next = r.outside
	return r
}

// outside takes a byte ahead of a segment.
func (r *reader) outside(c byte) api.Errno {
	if c == newline && len(r.segs) > 0 {
		return api.OK
	}
	if len(r.segs) == api.MaxSegs {
		return api.ErrLong
	}
	r.within = true
	r.next = r.inTag
	return r.inTag(c)
}

// inTag takes a byte of a tag.
func (r *reader) inTag(c byte) api.Errno {
	if !isOfTag(c) {
		return api.ErrSign
	}
	r.word = append(r.word, c)
	if len(r.word) == tagSize {
		r.seg.Tag = r.takeWord()
		r.next = r.behindTag
	}
	return api.OK
}

// behindTag takes the byte behind a tag.
func (r *reader) behindTag(c byte) api.Errno {
	switch c {
	case ahead:
		return r.beginElem()
	case behind:
		return r.endSeg()
	}
	return api.ErrSign
}

// inComp takes a byte of a component, or the sign that ends it.
func (r *reader) inComp(c byte) api.Errno {
	switch c {
	case ahead:
		r.endElem()
		return r.beginElem()
	case between:
		return r.nextComp()
	case behind:
		r.endElem()
		return r.endSeg()
	case mark:
		r.next = r.behindMark
		return api.OK
	}
	return r.add(c)
}

// behindMark takes the byte behind a mark. Only with a sign it is a byte of the component, so no other one makes it too long.
func (r *reader) behindMark(c byte) api.Errno {
	if !isSign(c) {
		return api.ErrSign
	}
	r.next = r.inComp
	return r.add(c)
}

// add adds a byte to the component. Of a byte that is too much and may not stand there either, the error that is named first is answered.
func (r *reader) add(c byte) api.Errno {
	if len(r.word) == api.MaxText {
		return api.ErrLong
	}
	if !isPlain(c) {
		return api.ErrSign
	}
	r.word = append(r.word, c)
	return api.OK
}

// beginElem begins an element, and its first component.
func (r *reader) beginElem() api.Errno {
	if len(r.seg.Elems) == api.MaxElems {
		return api.ErrLong
	}
	r.next = r.inComp
	return api.OK
}

// nextComp ends a component and begins the next one.
func (r *reader) nextComp() api.Errno {
	r.endComp()
	if len(r.elem) == api.MaxComps {
		return api.ErrLong
	}
	return api.OK
}

// endComp ends a component.
func (r *reader) endComp() {
	r.elem = append(r.elem, r.takeWord())
}

// endElem ends an element, with its last component.
func (r *reader) endElem() {
	r.endComp()
	r.seg.Elems = append(r.seg.Elems, r.elem)
	r.elem = nil // not cut back to none: the next element has memory of its own
}

// endSeg ends a segment.
func (r *reader) endSeg() api.Errno {
	r.segs = append(r.segs, r.seg)
	r.seg = api.Segment{}
	r.within = false
	r.next = r.outside
	return api.OK
}

// takeWord is the word that has begun, in memory of its own; the next one begins with nothing.
func (r *reader) takeWord() string {
	word := string(r.word)
	r.word = r.word[:0]
	return word
}
