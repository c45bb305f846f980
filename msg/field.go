package msg

import (
	"math"

	"tarmac/api"
)

// The tags of segments: of an acknowledgement, of a message's kind and key, and of the fields behind them.
const (
	ackTag    = "ACK"
	kindTag   = "MSG"
	keyTag    = "KEY"
	couponTag = "CPN"
	amountTag = "AMT"
	codeTag   = "COD"
)

// maxCode is the greatest Code that may be told.
const maxCode = 999

// field is what messages of some kinds have, as numbers of one segment. What take is given need be neither as many numbers as it has nor within their bounds: it tells whether they are.
type field struct {
	tag  string
	tell func(m api.Message) []int64
	take func(m *api.Message, numbers []int64) bool
}

// kinds is of each kind of message the fields that it has, in their segments' order.
func kinds() map[uint8][]field {
	coupon, amount, code := couponField(), amountField(), codeField()
	return map[uint8][]field{
		api.MsgWant:   {},
		api.MsgGrant:  {coupon},
		api.MsgRefuse: {code},
		api.MsgRecall: {},
		api.MsgReturn: {coupon},
		api.MsgBill:   {amount},
		api.MsgAccept: {amount},
		api.MsgReject: {amount, code},
	}
}

// couponField is a coupon: its leg, its value, how it stands, and how often it was handed on.
func couponField() field {
	return field{
		tag: couponTag,
		tell: func(m api.Message) []int64 {
			c := m.Coupon
			return []int64{int64(c.Leg.Carrier), int64(c.Leg.Flight), int64(c.Leg.Weight), c.Value, int64(c.Status), int64(c.Nonce)}
		},
		take: func(m *api.Message, numbers []int64) bool {
			c := &m.Coupon
			return len(numbers) == 6 &&
				cut(&c.Leg.Carrier, numbers[0], 0, api.MaxCarriers-1) &&
				cut(&c.Leg.Flight, numbers[1], 0, math.MaxUint16) &&
				cut(&c.Leg.Weight, numbers[2], 0, math.MaxUint32) &&
				cut(&c.Value, numbers[3], -api.MaxMoney, api.MaxMoney) &&
				cut(&c.Status, numbers[4], int64(api.Open), int64(api.Exchanged)) &&
				cut(&c.Nonce, numbers[5], 0, math.MaxUint32)
		},
	}
}

// amountField is an amount.
func amountField() field {
	return field{
		tag:  amountTag,
		tell: func(m api.Message) []int64 { return []int64{m.Amount} },
		take: func(m *api.Message, numbers []int64) bool {
			return len(numbers) == 1 && cut(&m.Amount, numbers[0], -api.MaxMoney, api.MaxMoney)
		},
	}
}

// codeField is an error's number.
func codeField() field {
	return field{
		tag:  codeTag,
		tell: func(m api.Message) []int64 { return []int64{int64(m.Code)} },
		take: func(m *api.Message, numbers []int64) bool {
			return len(numbers) == 1 && cut(&m.Code, numbers[0], 0, maxCode)
		},
	}
}

// takeAt takes a coupon's place into a message's key, if it may be one.
func takeAt(m *api.Message, at int64) bool {
	return cut(&m.Key.At, at, 0, api.MaxCoupons-1)
}

// cut puts a number from least to most, which are within the size of what it is put in, there; or tells that it is not from least to most.
func cut[T ~int | ~int64 | ~uint8 | ~uint16 | ~uint32](to *T, n, least, most int64) bool {
	if n < least || n > most {
		return false
	}
	*to = T(n)
	return true
}
