package coupon_test

import (
	"slices"
	"testing"

	"tarmac/api"
	"tarmac/coupon"
)

// line is one of the document's table.
type line struct {
	from api.Status
	cmd  uint8
	to   api.Status
}

// table is the document's.
var table = []line{
	{api.Open, api.CmdCheck, api.Checked},
	{api.Checked, api.CmdUncheck, api.Open},
	{api.Checked, api.CmdBoard, api.Boarded},
	{api.Boarded, api.CmdFly, api.Flown},
	{api.Open, api.CmdVoid, api.Void},
	{api.Open, api.CmdRefund, api.Refunded},
	{api.Open, api.CmdExchange, api.Exchanged},
}

// statuses are the seven.
var statuses = []api.Status{api.Open, api.Checked, api.Boarded, api.Flown, api.Void, api.Refunded, api.Exchanged}

// commands are the seven that the table has.
var commands = []uint8{api.CmdCheck, api.CmdUncheck, api.CmdBoard, api.CmdFly, api.CmdVoid, api.CmdRefund, api.CmdExchange}

// others are an agent's commands that the table has not.
var others = []uint8{api.CmdIssue, api.CmdDisplay, api.CmdWant, api.CmdReturn, api.CmdRecall, api.CmdBill}

// over are the statuses of coupons that are.
var over = []api.Status{api.Flown, api.Void, api.Refunded, api.Exchanged}

// every goes through all statuses and commands that numbers of 0 to 255 tell.
func every(yield func(api.Status, uint8) bool) {
	for s := range 256 {
		for cmd := range 256 {
			if !yield(api.Status(s), uint8(cmd)) {
				return
			}
		}
	}
}

// leads fails unless a command leads from one status to another one.
func leads(t *testing.T, s api.Status, cmd uint8, want api.Status) {
	t.Helper()
	if to, e := coupon.Next(s, cmd); to != want || e != api.OK {
		t.Errorf("Next(%d, %d) = %d, %v; want %d", s, cmd, to, e, want)
	}
}

// refuses fails unless a command is refused by the error, with nothing beside it.
func refuses(t *testing.T, s api.Status, cmd uint8, want api.Errno) {
	t.Helper()
	if to, e := coupon.Next(s, cmd); to != 0 || e != want {
		t.Errorf("Next(%d, %d) = %d, %v; want %v", s, cmd, to, e, want)
	}
}

// dice is a row of numbers that look thrown, the same at each run.
type dice uint64

func (d *dice) next() uint64 {
	*d = *d*6364136223846793005 + 1442695040888963407
	x := uint64(*d)
	return x ^ x>>29
}

// P8.1 to P8.3: the document's examples.
func TestExamples(t *testing.T) {
	leads(t, api.Open, api.CmdCheck, api.Checked)
	leads(t, api.Boarded, api.CmdFly, api.Flown)
	refuses(t, api.Open, api.CmdFly, api.ErrState)
	refuses(t, api.Flown, api.CmdFly, api.ErrState)
	refuses(t, 0, api.CmdFly, api.ErrArg)
	refuses(t, api.Open, api.CmdIssue, api.ErrArg)
	if !coupon.Over(api.Void) || coupon.Free(api.Checked) || coupon.Text(api.Flown) != "F" {
		t.Errorf("%v, %v, %q", coupon.Over(api.Void), coupon.Free(api.Checked), coupon.Text(api.Flown))
	}
}

// P8.1: each way of the table, by itself, and asked again.
func TestEachWay(t *testing.T) {
	for range 3 {
		for _, l := range table {
			leads(t, l.from, l.cmd, l.to)
		}
	}
}

// P8.1: each status with each of the seven commands: the ways that the table has not.
func TestEachOtherWay(t *testing.T) {
	missing := 0
	for _, s := range statuses {
		for _, cmd := range commands {
			if !slices.ContainsFunc(table, func(l line) bool { return l.from == s && l.cmd == cmd }) {
				refuses(t, s, cmd, api.ErrState)
				missing++
			}
		}
	}
	if missing != 7*7-len(table) {
		t.Errorf("%d ways are missing", missing)
	}
}

// P8.1: the ways that the table has not, by hand, of each status some.
func TestWaysByHand(t *testing.T) {
	for _, cmd := range []uint8{api.CmdUncheck, api.CmdBoard, api.CmdFly} {
		refuses(t, api.Open, cmd, api.ErrState)
	}
	for _, cmd := range []uint8{api.CmdCheck, api.CmdFly, api.CmdVoid, api.CmdRefund, api.CmdExchange} {
		refuses(t, api.Checked, cmd, api.ErrState)
	}
	for _, cmd := range []uint8{api.CmdCheck, api.CmdUncheck, api.CmdBoard, api.CmdVoid, api.CmdRefund, api.CmdExchange} {
		refuses(t, api.Boarded, cmd, api.ErrState)
	}
	refuses(t, api.Void, api.CmdVoid, api.ErrState)
	refuses(t, api.Refunded, api.CmdRefund, api.ErrState)
	refuses(t, api.Exchanged, api.CmdExchange, api.ErrState)
}

// P8.1: what is no status, with each command.
func TestNoStatus(t *testing.T) {
	for s, cmd := range every {
		if !slices.Contains(statuses, s) {
			refuses(t, s, cmd, api.ErrArg)
		}
	}
}

// P8.1: what is none of the seven commands, an agent's others too, with each status.
func TestNoCommand(t *testing.T) {
	for _, cmd := range others {
		for _, s := range statuses {
			refuses(t, s, cmd, api.ErrArg)
		}
	}
	for s, cmd := range every {
		if !slices.Contains(commands, cmd) {
			refuses(t, s, cmd, api.ErrArg)
		}
	}
}

// P8.1, R5: ErrArg ahead of ErrState: the table has no way either where the status or the command is none.
func TestRefusedTwice(t *testing.T) {
	for _, s := range over { // from these no command leads on
		for _, cmd := range []uint8{0, api.CmdIssue, api.CmdDisplay, api.CmdWant, api.CmdReturn, api.CmdRecall, api.CmdBill, api.CmdBill + 1, 255} {
			refuses(t, s, cmd, api.ErrArg)
		}
		for _, cmd := range commands {
			refuses(t, s, cmd, api.ErrState)
		}
	}
	for _, s := range []api.Status{0, api.Exchanged + 1, 128, 255} {
		refuses(t, s, api.CmdCheck, api.ErrArg)
		refuses(t, s, api.CmdBill, api.ErrArg)
		refuses(t, s, 0, api.ErrArg)
		refuses(t, s, 255, api.ErrArg)
	}
}

// P8.1: every status and every command: all but the table's ways are refused, each by the one error.
func TestEveryNext(t *testing.T) {
	counts := map[api.Errno]int{}
	for s, cmd := range every {
		to, e := coupon.Next(s, cmd)
		counts[e]++
		isWay := slices.Contains(table, line{s, cmd, to})
		if isWay != (e == api.OK) || !isWay && to != 0 {
			t.Errorf("Next(%d, %d) = %d, %v", s, cmd, to, e)
		}
	}
	if counts[api.OK] != 7 || counts[api.ErrState] != 42 || counts[api.ErrArg] != 256*256-49 {
		t.Errorf("%v", counts)
	}
}

// P8.2: every number of 0 to 255.
func TestOverFreeIs(t *testing.T) {
	for n := range 256 {
		s := api.Status(n)
		if got, want := coupon.Over(s), slices.Contains(over, s); got != want {
			t.Errorf("Over(%d) = %v", s, got)
		}
		if got, want := coupon.Free(s), s == api.Open; got != want {
			t.Errorf("Free(%d) = %v", s, got)
		}
		if got, want := coupon.Is(s), slices.Contains(statuses, s); got != want {
			t.Errorf("Is(%d) = %v", s, got)
		}
	}
}

// P8.2: each status by hand; and numbers beside them, which are none, neither over nor free.
func TestOverFreeIsByHand(t *testing.T) {
	for _, x := range []struct {
		s              api.Status
		over, free, is bool
	}{
		{api.Open, false, true, true},
		{api.Checked, false, false, true},
		{api.Boarded, false, false, true},
		{api.Flown, true, false, true},
		{api.Void, true, false, true},
		{api.Refunded, true, false, true},
		{api.Exchanged, true, false, true},
		{0, false, false, false},
		{8, false, false, false},
		{255, false, false, false},
	} {
		if coupon.Over(x.s) != x.over || coupon.Free(x.s) != x.free || coupon.Is(x.s) != x.is {
			t.Errorf("%d: Over %v, Free %v, Is %v", x.s, coupon.Over(x.s), coupon.Free(x.s), coupon.Is(x.s))
		}
	}
}

// P8.3: the sign of each of the seven; nothing of any other number.
func TestText(t *testing.T) {
	signs := map[api.Status]string{
		api.Open: "O", api.Checked: "C", api.Boarded: "B", api.Flown: "F",
		api.Void: "V", api.Refunded: "R", api.Exchanged: "E",
	}
	for n := range 256 {
		s := api.Status(n)
		if got := coupon.Text(s); got != signs[s] {
			t.Errorf("Text(%d) = %q, want %q", s, got, signs[s])
		}
	}
}

// P8.4: once it is over it stays, whatever is commanded; and until then some command leads on.
func TestOverStays(t *testing.T) {
	for _, s := range statuses {
		on := 0
		for cmd := range 256 {
			if _, e := coupon.Next(s, uint8(cmd)); e == api.OK {
				on++
			}
		}
		if coupon.Over(s) != (on == 0) {
			t.Errorf("from %d there are %d ways, and Over is %v", s, on, coupon.Over(s))
		}
	}
}

// P8.4: just one status leads to Flown, and just one to Boarded, whatever is commanded.
func TestOneWayToFlown(t *testing.T) {
	for s, cmd := range every {
		to, e := coupon.Next(s, cmd)
		if to == api.Flown && s != api.Boarded || to == api.Boarded && s != api.Checked {
			t.Errorf("Next(%d, %d) = %d, %v", s, cmd, to, e)
		}
	}
}

// follow is the statuses that a coupon, Open at first, comes to by commands, one behind the other; one that is refused leaves it as it is.
func follow(cmds []uint8) []api.Status {
	trail := []api.Status{api.Open}
	for _, cmd := range cmds {
		if to, e := coupon.Next(trail[len(trail)-1], cmd); e == api.OK {
			trail = append(trail, to)
		}
	}
	return trail
}

// keeps fails unless a trail ends where it is over, and has Flown behind Boarded behind Checked alone, and at most once.
func keeps(t *testing.T, trail []api.Status) {
	t.Helper()
	flown := 0
	for i, s := range trail {
		if coupon.Over(s) && i != len(trail)-1 {
			t.Errorf("%d: it went on behind place %d", trail, i)
		}
		if s == api.Boarded && trail[i-1] != api.Checked || s == api.Flown && trail[i-1] != api.Boarded {
			t.Errorf("%d: place %d is not behind what it must be", trail, i)
		}
		if s == api.Flown {
			flown++
		}
	}
	if flown > 1 {
		t.Errorf("%d: it was flown %d times", trail, flown)
	}
}

// P8.4: all rows of six of the seven commands.
func TestAllRows(t *testing.T) {
	const long = 6
	ends := map[api.Status]int{}
	rows := 1
	for range long {
		rows *= len(commands)
	}
	for n := range rows {
		cmds := make([]uint8, long)
		for i := range cmds {
			cmds[i] = commands[n%len(commands)]
			n /= len(commands)
		}
		trail := follow(cmds)
		keeps(t, trail)
		ends[trail[len(trail)-1]]++
	}
	for _, s := range statuses {
		if ends[s] == 0 {
			t.Errorf("no row ends at %d", s)
		}
	}
}

// P8.4: long rows of any bytes, those that are commands among them more often.
func TestLongRows(t *testing.T) {
	var d dice
	flown := 0
	for range 2000 {
		cmds := make([]uint8, 100)
		for i := range cmds {
			cmds[i] = uint8(d.next())
			if d.next()%4 != 0 { // with few voided, refunded, exchanged, that many are flown
				cmds[i] = []uint8{api.CmdCheck, api.CmdUncheck, api.CmdBoard, api.CmdFly}[d.next()%4]
			}
		}
		trail := follow(cmds)
		keeps(t, trail)
		if trail[len(trail)-1] == api.Flown {
			flown++
		}
	}
	if flown < 500 {
		t.Errorf("%d were flown only", flown)
	}
}

// P8.4: trails by hand: to the flight and beyond, back from the check-in, and from the gate not back.
func TestTrailsByHand(t *testing.T) {
	for _, x := range []struct {
		cmds []uint8
		want []api.Status
	}{
		{[]uint8{api.CmdCheck, api.CmdBoard, api.CmdFly, api.CmdFly, api.CmdCheck, api.CmdRefund}, []api.Status{api.Open, api.Checked, api.Boarded, api.Flown}},
		{[]uint8{api.CmdCheck, api.CmdUncheck, api.CmdBoard, api.CmdVoid}, []api.Status{api.Open, api.Checked, api.Open, api.Void}},
		{[]uint8{api.CmdBoard, api.CmdFly, api.CmdCheck, api.CmdFly, api.CmdBoard, api.CmdUncheck}, []api.Status{api.Open, api.Checked, api.Boarded}},
		{[]uint8{api.CmdRefund, api.CmdExchange, api.CmdCheck}, []api.Status{api.Open, api.Refunded}},
		{[]uint8{api.CmdExchange, api.CmdVoid, api.CmdFly}, []api.Status{api.Open, api.Exchanged}},
		{[]uint8{api.CmdIssue, 0, 255, api.CmdBill, api.CmdRecall}, []api.Status{api.Open}},
	} {
		if got := follow(x.cmds); !slices.Equal(got, x.want) {
			t.Errorf("%d leads along %d, want %d", x.cmds, got, x.want)
		}
	}
}
