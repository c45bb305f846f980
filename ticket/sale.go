package ticket

import (
	"slices"

	"tarmac/api"
	"tarmac/money"
)

// codeSize is how many letters a tax's Code has.
const codeSize = 2

// condition is something that must hold, and the error where it does not.
type condition struct {
	e     api.Errno
	holds func() bool
}

// conditions are what must hold of a sale among n carriers, in the order in which they are asked.
func conditions(s api.Sale, n int) []condition {
	return []condition{
		{api.ErrArg, func() bool { return n >= 2 && n <= api.MaxCarriers }},
		{api.ErrShape, func() bool { return isName(s.Name) }},
		{api.ErrShape, func() bool { return len(s.Legs) >= 1 && len(s.Legs) <= api.MaxCoupons }},
		{api.ErrShape, func() bool { return every(s.Legs, func(l api.Leg) bool { return int(l.Carrier) < n && l.Weight > 0 }) }},
		{api.ErrShape, func() bool { return isAmount(s.Fare) }},
		{api.ErrShape, func() bool { return len(s.Taxes) <= api.MaxTaxes }},
		{api.ErrShape, func() bool {
			return every(s.Taxes, func(x api.Tax) bool { return isCode(x.Code) && isAmount(x.Amount) })
		}},
		{api.ErrShape, func() bool { return isAmount(s.Penalty) }},
		{api.ErrOver, func() bool {
			_, e := Price(s)
			return e == api.OK
		}},
	}
}

// isTicket tells whether a ticket may be among n carriers.
func isTicket(t api.Ticket, n int) bool {
	return int(t.Carrier) < n && t.Serial >= 1 && t.Serial <= api.MaxSerial
}

// isName tells whether a text is a passenger's name.
func isName(text string) bool {
	return len(text) >= 1 && len(text) <= api.MaxName && every([]byte(text), func(c byte) bool { return isLetter(c) || c == ' ' || c == '/' })
}

// isCode tells whether a text is a tax's Code.
func isCode(text string) bool {
	return len(text) == codeSize && every([]byte(text), isLetter)
}

// isLetter tells whether a byte is one of A to Z.
func isLetter(c byte) bool { return c >= 'A' && c <= 'Z' }

// isAmount tells whether an amount may be, and is not below 0.
func isAmount(a int64) bool { return a >= 0 && money.Check(a) == api.OK }

// every tells whether something holds of all elements of a list.
func every[E any](l []E, holds func(E) bool) bool {
	return !slices.ContainsFunc(l, func(x E) bool { return !holds(x) })
}
