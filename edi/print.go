package edi

import (
	"strings"

	"tarmac/api"
)

// areWhole tells whether each segment has a tag, and each element a component.
func areWhole(l []api.Segment) bool {
	for _, s := range l {
		if !isTag(s.Tag) {
			return false
		}
		for _, comps := range s.Elems {
			if len(comps) == 0 {
				return false
			}
		}
	}
	return true
}

// isTag tells whether a text is one.
func isTag(text string) bool {
	return len(text) == tagSize && isOfTag(text[0]) && isOfTag(text[1]) && isOfTag(text[2])
}

// arePlain tells whether the components have no other bytes than they may.
func arePlain(l []api.Segment) bool {
	for _, s := range l {
		for _, comps := range s.Elems {
			for _, comp := range comps {
				if !isPlainText(comp) {
					return false
				}
			}
		}
	}
	return true
}

// isPlainText tells whether a component may have each byte of the text.
func isPlainText(text string) bool {
	for i := range len(text) {
		if !isPlain(text[i]) {
			return false
		}
	}
	return true
}

// areShort tells whether nothing is longer, and there is no more of anything, than may be; of the whole text it does not tell.
func areShort(l []api.Segment) bool {
	if len(l) > api.MaxSegs {
		return false
	}
	for _, s := range l {
		if len(s.Elems) > api.MaxElems {
			return false
		}
		for _, comps := range s.Elems {
			if !isShortElem(comps) {
				return false
			}
		}
	}
	return true
}

// isShortElem tells whether an element has no more components, and none of them more bytes, than may be.
func isShortElem(comps []string) bool {
	if len(comps) > api.MaxComps {
		return false
	}
	for _, comp := range comps {
		if len(comp) > api.MaxText {
			return false
		}
	}
	return true
}

// textOf is the segments' text.
func textOf(l []api.Segment) string {
	var texts []string
	for _, s := range l {
		texts = append(texts, segText(s), string(behind))
	}
	return joined("", texts...)
}

// segText is a segment's text, without what stands behind it.
func segText(s api.Segment) string {
	texts := []string{s.Tag}
	for _, comps := range s.Elems {
		texts = append(texts, elemText(comps))
	}
	return joined(string(ahead), texts...)
}

// elemText is an element's text.
func elemText(comps []string) string {
	var texts []string
	for _, comp := range comps {
		texts = append(texts, marked(comp))
	}
	return joined(string(between), texts...)
}

// marked is a component with a mark ahead of each of its signs.
func marked(comp string) string {
	var b strings.Builder
	for i := range len(comp) {
		if isSign(comp[i]) {
			b.WriteByte(mark)
		}
		b.WriteByte(comp[i])
	}
	return b.String()
}

// joined puts parts together, with the same text between each two.
func joined(with string, parts ...string) string {
	var b strings.Builder
	for i, part := range parts {
		if i > 0 {
			b.WriteString(with)
		}
		b.WriteString(part)
	}
	return b.String()
}
