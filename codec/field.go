package codec

import "tarmac/api"

// walkOver goes over the fields that a record of its kind has, in the order of their bytes, with a step that lays them, or reads them. It tells whether that could be done of each one.
func walkOver(r *api.Record, s step) bool {
	w := &walk{step: s, ok: true}
	number(w, &r.Kind, 1)
	switch r.Kind {
	case api.RecCommand:
		w.command(&r.Command)
	case api.RecPacket:
		w.numbered(r)
		w.message(&r.Message)
	case api.RecAck:
		w.numbered(r)
	default:
		return false
	}
	return w.ok
}

// numbered goes over what a packet and an acknowledgement have.
func (w *walk) numbered(r *api.Record) {
	number(w, &r.From, 1)
	number(w, &r.Number, 8)
}

// command goes over a command.
func (w *walk) command(c *api.Command) {
	number(w, &c.Kind, 1)
	w.ticket(&c.Ticket)
	number(w, &c.At, 1)
	number(w, &c.Amount, 8)
	w.sale(&c.Sale)
}

// sale goes over a sale.
func (w *walk) sale(s *api.Sale) {
	w.text(&s.Name)
	list(w, &s.Legs, api.MaxCoupons, w.leg)
	number(w, &s.Fare, 8)
	list(w, &s.Taxes, api.MaxTaxes, w.tax)
	number(w, &s.Penalty, 8)
}

// leg goes over a leg.
func (w *walk) leg(l *api.Leg) {
	number(w, &l.Carrier, 1)
	number(w, &l.Flight, 2)
	number(w, &l.Weight, 4)
}

// tax goes over a tax.
func (w *walk) tax(t *api.Tax) {
	w.text(&t.Code)
	number(w, &t.Amount, 8)
}

// ticket goes over a ticket's number.
func (w *walk) ticket(t *api.Ticket) {
	number(w, &t.Carrier, 1)
	number(w, &t.Serial, 8)
}

// message goes over a message.
func (w *walk) message(m *api.Message) {
	number(w, &m.Kind, 1)
	w.ticket(&m.Key.Ticket)
	number(w, &m.Key.At, 1)
	w.coupon(&m.Coupon)
	number(w, &m.Amount, 8)
	number(w, &m.Code, 8)
}

// coupon goes over a coupon.
func (w *walk) coupon(c *api.Coupon) {
	w.leg(&c.Leg)
	number(w, &c.Value, 8)
	number(w, &c.Status, 1)
	number(w, &c.Nonce, 4)
}
