package link_test

import (
	"math"
	"math/rand"
	"slices"
	"testing"

	"wagonway/alarm"
	"wagonway/api"
	"wagonway/link"
	"wagonway/wire"
)

// These are limits as the chapter writes them out.
const (
	maxOpen  = 16
	maxEarly = 8
	greatest = 1<<32 - 1
	lastTick = math.MaxUint64
)

// In the tests robot 1 of epoch 3 has a link to robot 2, whose epoch 5 it gets to know.
const (
	self, peer = 1, 2
	own, known = 3, 5
	base, most = 4, 16 // ticks of the rule
)

var rule = alarm.Rule{Base: base, Cap: most}

func made(t *testing.T, from, to int, epoch uint32) *link.Link {
	t.Helper()
	l, e := link.New(from, to, epoch, rule)
	if e != api.OK || l == nil {
		t.Fatal(l, e)
	}
	return l
}

// strange is robot 1's link, which knows no epoch.
func strange(t *testing.T) *link.Link { return made(t, self, peer, own) }

// joined is robot 1's link, which knows robot 2's epoch.
func joined(t *testing.T) *link.Link {
	t.Helper()
	l := strange(t)
	expectTaken(t, taken(t, l, 0, hello(known, own)), nil, nil, true)
	return l
}

// sending is robot 1's link, that sent so many messages at a tick.
func sending(t *testing.T, many int, now uint64) *link.Link {
	t.Helper()
	l := joined(t)
	sendAll(t, l, many, now)
	return l
}

// sendAll sends so many messages more.
func sendAll(t *testing.T, l *link.Link, many int, now uint64) {
	t.Helper()
	for i := range many {
		if _, e := l.Send(now, message(i)); e != api.OK {
			t.Fatal(i, e)
		}
	}
}

// message is one, by a number of its own.
func message(n int) api.Message {
	return api.Message{Kind: api.Grant, Cell: n % 1024, Gen: uint32(n), Stamp: uint64(n) << 20}
}

func messages(from, to int) []api.Message {
	var l []api.Message
	for n := from; n < to; n++ {
		l = append(l, message(n))
	}
	return l
}

// status is a message that has claims.
func status(cells ...int) api.Message {
	m := api.Message{Kind: api.Status}
	for _, c := range cells {
		m.Claims = append(m.Claims, api.Claim{Cell: c, Gen: uint32(c) + 7})
	}
	return m
}

// some are messages of each kind that has a number.
func some() []api.Message {
	return []api.Message{
		{Kind: api.Request, Cell: 1023, Stamp: lastTick, Prio: 15},
		{Kind: api.Grant, Cell: 5, Gen: greatest, Stamp: 9},
		{Kind: api.Release, Cell: 6, Gen: 7},
		{Kind: api.Deny, Cell: 6, Stamp: 8, Other: -1},
		{Kind: api.Probe, Cell: 6, Origin: 63, Other: 2, Prio: 3, Hops: 64},
		{Kind: api.Abort, Origin: 3, Other: 63},
		{Kind: api.Inherit, Cell: 0, Prio: 15},
		{Kind: api.Recall, Cell: 7, Gen: 1},
		status(),
		status(1, 2, 1023),
	}
}

// wrong are messages that may not be.
func wrong() []api.Message {
	return []api.Message{
		{}, {Kind: -1}, {Kind: 12}, {Kind: api.Request, Cell: 1024}, {Kind: api.Request, Gen: 1}, {Kind: api.Grant, Cell: -1},
		{Kind: api.Probe, Hops: 65}, {Kind: api.Deny, Other: -2}, {Kind: api.Hello, Cell: 1}, {Kind: api.Ack, Gen: 1}, status(2, 1), status(1, 1),
	}
}

// outward is a packet of robot 1's link, as the chapter has it.
func outward(toEpoch, seq, met uint32, m api.Message) api.Packet {
	return api.Packet{From: self, To: peer, FromEpoch: own, ToEpoch: toEpoch, Seq: seq, Met: met, Msg: m}
}

// inward is a packet of robot 2 to it.
func inward(fromEpoch, toEpoch, seq, met uint32, m api.Message) api.Packet {
	return api.Packet{From: peer, To: self, FromEpoch: fromEpoch, ToEpoch: toEpoch, Seq: seq, Met: met, Msg: m}
}

func hello(fromEpoch, toEpoch uint32) api.Packet {
	return inward(fromEpoch, toEpoch, 0, 0, api.Message{Kind: api.Hello})
}

// acked is robot 2's Ack.
func acked(met uint32) api.Packet {
	return inward(known, own, 0, met, api.Message{Kind: api.Ack})
}

// numbered is robot 2's message by that number.
func numbered(seq uint32) api.Packet {
	return inward(known, own, seq, 0, message(int(seq)))
}

func helloOut(toEpoch, met uint32) []api.Packet {
	return []api.Packet{outward(toEpoch, 0, met, api.Message{Kind: api.Hello})}
}

func ackOut(met uint32) []api.Packet {
	return []api.Packet{outward(known, 0, met, api.Message{Kind: api.Ack})}
}

func samePacket(a, b api.Packet) bool {
	head := func(p api.Packet) [6]int {
		return [6]int{p.From, p.To, int(p.FromEpoch), int(p.ToEpoch), int(p.Seq), int(p.Met)}
	}
	return head(a) == head(b) && wire.Same(a.Msg, b.Msg)
}

// copied is the packet, with claims of its own.
func copied(p api.Packet) api.Packet {
	p.Msg.Claims = slices.Clone(p.Msg.Claims)
	return p
}

func samePackets(a, b []api.Packet) bool { return slices.EqualFunc(a, b, samePacket) }

func sameMessages(a, b []api.Message) bool { return slices.EqualFunc(a, b, wire.Same) }

func taken(t *testing.T, l *link.Link, now uint64, p api.Packet) link.Taken {
	t.Helper()
	x, e := l.Take(now, p)
	if e != api.OK {
		t.Fatalf("Take(%v) = %v", p, e)
	}
	return x
}

func expectTaken(t *testing.T, x link.Taken, up []api.Message, back []api.Packet, renewed bool) {
	t.Helper()
	if !sameMessages(x.Up, up) || !samePackets(x.Back, back) || x.Renewed != renewed {
		t.Errorf("Take = %v, not %v %v %v", x, up, back, renewed)
	}
}

func expectNothing(t *testing.T, x link.Taken) {
	t.Helper()
	expectTaken(t, x, nil, nil, false)
}

func expectPackets(t *testing.T, l, want []api.Packet) {
	t.Helper()
	if !samePackets(l, want) {
		t.Errorf("packets %v, not %v", l, want)
	}
}

// expect holds all that may be asked of a link against what it is to have; an alarm that is off rings at 0.
func expect(t *testing.T, l *link.Link, epoch uint32, waiting []api.Message, rings uint64) {
	t.Helper()
	if l.Known() != epoch {
		t.Errorf("Known = %d, not %d", l.Known(), epoch)
	}
	if w := l.Waiting(); !sameMessages(w, waiting) {
		t.Errorf("Waiting = %v, not %v", w, waiting)
	}
	if at, on := l.Rings(); at != rings || on != (rings != 0) {
		t.Errorf("Rings = %d %v, not %d", at, on, rings)
	}
}

// The chapter's examples.
func TestExamples(t *testing.T) {
	a, b := made(t, 1, 2, 1), made(t, 2, 1, 5)
	opened := a.Open(0)
	expectPackets(t, opened, []api.Packet{{From: 1, To: 2, FromEpoch: 1, Msg: api.Message{Kind: 9}}})
	x := taken(t, b, 0, opened[0])
	expectTaken(t, x, nil, []api.Packet{{From: 2, To: 1, FromEpoch: 5, ToEpoch: 1, Msg: api.Message{Kind: 9}}}, true)
	expectTaken(t, taken(t, a, 0, x.Back[0]), nil, nil, true)
	m := api.Message{Kind: api.Release, Cell: 4, Gen: 2}
	p, e := a.Send(0, m)
	if e != api.OK || !samePacket(p, api.Packet{From: 1, To: 2, FromEpoch: 1, ToEpoch: 5, Seq: 1, Msg: m}) {
		t.Error(p, e)
	}
	ack := []api.Packet{{From: 2, To: 1, FromEpoch: 5, ToEpoch: 1, Met: 1, Msg: api.Message{Kind: 4}}}
	expectTaken(t, taken(t, b, 0, p), []api.Message{m}, ack, false)
	expectTaken(t, taken(t, b, 0, p), nil, ack, false)
	expectNothing(t, taken(t, a, 0, ack[0]))
	expect(t, a, 5, nil, 0)
}

// The limits are the chapter's.
func TestConstants(t *testing.T) {
	if api.MaxOpen != maxOpen || api.MaxEarly != maxEarly || api.MaxRobots != 64 {
		t.Error("constants of api are others")
	}
}

// P11.1: any two robots, any epoch from 1 on, any rule that may be.
func TestNew(t *testing.T) {
	for _, x := range []struct {
		self, peer int
		epoch      uint32
		r          alarm.Rule
	}{
		{0, 1, 1, rule}, {1, 0, 1, rule}, {0, 63, greatest, rule}, {63, 0, 2, rule}, {62, 63, 1, alarm.Rule{Base: 1, Cap: 1}},
		{3, 9, 1, alarm.Rule{Base: 1, Cap: 1 << 32}}, {3, 9, 1, alarm.Rule{Base: 1 << 32, Cap: 1 << 32}},
	} {
		l, e := link.New(x.self, x.peer, x.epoch, x.r)
		if e != api.OK || l == nil {
			t.Fatal(x, e)
		}
		expect(t, l, 0, nil, 0)
		expectPackets(t, l.Open(7), []api.Packet{{From: x.self, To: x.peer, FromEpoch: x.epoch, Msg: api.Message{Kind: api.Hello}}})
		expect(t, l, 0, nil, 7+x.r.Base)
	}
}

// P11.1: what may not be makes no link; ErrArg is ahead of ErrRule.
func TestNewWrong(t *testing.T) {
	bad := []alarm.Rule{{}, {Base: 0, Cap: 4}, {Base: 5, Cap: 4}, {Base: 1, Cap: 1<<32 + 1}}
	for _, x := range []struct {
		self, peer int
		epoch      uint32
	}{
		{-1, 0, 1}, {64, 0, 1}, {0, -1, 1}, {0, 64, 1}, {0, 0, 1}, {63, 63, 1}, {64, 64, 1}, {-1, -1, 1}, {0, 1, 0}, {1, 1, 0},
		{math.MinInt, 1, 1}, {1, math.MaxInt, 1},
	} {
		for _, r := range append(bad, rule) {
			if l, e := link.New(x.self, x.peer, x.epoch, r); l != nil || e != api.ErrArg {
				t.Error(x, r, l, e)
			}
		}
	}
	for _, r := range bad {
		if l, e := link.New(0, 1, 1, r); l != nil || e != api.ErrRule {
			t.Error(r, l, e)
		}
	}
}

// P11.2: who knows no epoch opens by a Hello, each time, and the alarm is started each time.
func TestOpen(t *testing.T) {
	l := strange(t)
	for _, now := range []uint64{0, 9, 3} {
		expectPackets(t, l.Open(now), helloOut(0, 0))
		expect(t, l, 0, nil, now+base)
	}
	expectPackets(t, l.Open(lastTick-1), helloOut(0, 0))
	expect(t, l, 0, nil, lastTick)
}

// P11.2: an Open behind alarms that rang in vain starts from the Base.
func TestOpenAnew(t *testing.T) {
	l := strange(t)
	l.Open(0)
	l.Tick(4)
	expect(t, l, 0, nil, 12)
	l.Open(5)
	expect(t, l, 0, nil, 9)
	l.Tick(9)
	expect(t, l, 0, nil, 17)
}

// P11.2: who knows an epoch does nothing to open, whether it waits or not.
func TestOpenKnown(t *testing.T) {
	l := joined(t)
	expectPackets(t, l.Open(1), nil)
	expect(t, l, known, nil, 0)
	sendAll(t, l, 2, 3)
	expectPackets(t, l.Open(5), nil)
	expect(t, l, known, messages(0, 2), 3+base)
}

// P11.2: what is sent has the next number, and waits; the alarm is started by the first one alone.
func TestSend(t *testing.T) {
	l := joined(t)
	expect(t, l, known, nil, 0)
	for i, m := range some() {
		p, e := l.Send(20+uint64(i), m)
		if e != api.OK || !samePacket(p, outward(known, uint32(i+1), 0, m)) {
			t.Error(m, p, e)
		}
		expect(t, l, known, some()[:i+1], 20+base)
	}
}

// P11.2: packets bear the last number in order, as it is when they are sent.
func TestSendMet(t *testing.T) {
	l := joined(t)
	for i, seq := range []uint32{1, 3, 4, 2, 9} {
		taken(t, l, 0, numbered(seq))
		p, e := l.Send(0, message(i))
		if met := []uint32{1, 1, 1, 4, 4}[i]; e != api.OK || !samePacket(p, outward(known, uint32(i+1), met, message(i))) {
			t.Error(seq, p, e)
		}
	}
}

// P11.2: the errors, the one that is named first ahead; they turn nothing.
func TestSendWrong(t *testing.T) {
	full := sending(t, maxOpen, 1)
	spent := joined(t)
	spent.SentUpTo(greatest)
	for _, x := range []struct {
		l       *link.Link
		e       api.Errno // of a message that may be
		known   uint32
		waiting int
		rings   uint64
	}{
		{joined(t), api.OK, known, 0, 0}, {strange(t), api.ErrLink, 0, 0, 0}, {full, api.ErrRoom, known, maxOpen, 1 + base}, {spent, api.ErrRoom, known, 0, 0},
	} {
		for _, m := range append(wrong(), api.Message{Kind: api.Hello}, api.Message{Kind: api.Ack}) {
			if p, e := x.l.Send(9, m); e != api.ErrPacket || !samePacket(p, api.Packet{}) {
				t.Error(m, p, e)
			}
			expect(t, x.l, x.known, messages(0, x.waiting), x.rings)
		}
		if x.e == api.OK {
			continue
		}
		for _, m := range some() {
			if p, e := x.l.Send(9, m); e != x.e || !samePacket(p, api.Packet{}) {
				t.Error(m, p, e)
			}
			expect(t, x.l, x.known, messages(0, x.waiting), x.rings)
		}
	}
}

// P11.2: a link that was opened, and heard of no epoch yet, may not send.
func TestSendOpened(t *testing.T) {
	l := strange(t)
	l.Open(0)
	if _, e := l.Send(0, message(1)); e != api.ErrLink {
		t.Error(e)
	}
	expect(t, l, 0, nil, base)
}

// P11.2: there is room for MaxOpen, and for as many more as are acknowledged.
func TestRoom(t *testing.T) {
	l := sending(t, maxOpen, 0)
	for _, x := range []struct {
		met  uint32
		room int
	}{{0, 0}, {3, 3}, {3, 0}, {4, 1}, {20, 16}, {21, 1}} {
		taken(t, l, 0, acked(x.met))
		for i := range x.room {
			p, e := l.Send(0, message(int(x.met)+maxOpen-x.room+i))
			if e != api.OK || p.Seq != x.met+maxOpen-uint32(x.room)+uint32(i)+1 {
				t.Fatal(x, i, p, e)
			}
		}
		if _, e := l.Send(0, message(99)); e != api.ErrRoom {
			t.Error(x, e)
		}
		expect(t, l, known, messages(int(x.met), int(x.met)+maxOpen), base)
	}
}

// P11.2: the greatest number is sent, none behind it; and it is acknowledged, and sent again, as any other one.
func TestGreatest(t *testing.T) {
	l := joined(t)
	l.SentUpTo(greatest - 3)
	for i := range uint32(3) {
		p, e := l.Send(0, message(int(i)))
		if e != api.OK || !samePacket(p, outward(known, greatest-2+i, 0, message(int(i)))) {
			t.Error(p, e)
		}
	}
	if p, e := l.Send(0, message(3)); e != api.ErrRoom || !samePacket(p, api.Packet{}) {
		t.Error(p, e)
	}
	taken(t, l, 1, acked(greatest-3))
	expect(t, l, known, messages(0, 3), base)
	taken(t, l, 1, acked(greatest-2))
	expect(t, l, known, messages(1, 3), 1+base)
	expectPackets(t, l.Tick(5), []api.Packet{outward(known, greatest-1, 0, message(1)), outward(known, greatest, 0, message(2))})
	taken(t, l, 1, acked(greatest))
	expect(t, l, known, nil, 0)
	if _, e := l.Send(0, message(3)); e != api.ErrRoom {
		t.Error(e)
	}
	taken(t, l, 1, hello(known+1, own))
	if p, e := l.Send(0, message(3)); e != api.OK || p.Seq != 1 {
		t.Error("a session that begins anew has numbers again:", p, e)
	}
}

// P11.3: a packet that may not be, or is not from the peer to its own robot, is ErrArg, whatever else it says; it turns nothing.
func TestTakeWrong(t *testing.T) {
	l := sending(t, 2, 0)
	var bad []api.Packet
	for _, m := range wrong() {
		bad = append(bad, inward(known, own, 1, 0, m))
	}
	for _, ends := range [][2]int{{self, peer}, {peer, peer}, {self, self}, {3, self}, {peer, 3}, {-1, self}, {peer, 64}, {64, self}, {peer, -1}, {0, 1}} {
		for _, p := range []api.Packet{hello(known+1, own), numbered(1), acked(2), hello(0, 0)} {
			p.From, p.To = ends[0], ends[1]
			bad = append(bad, p)
		}
	}
	for _, p := range bad {
		if x, e := l.Take(3, p); e != api.ErrArg || len(x.Up) != 0 || len(x.Back) != 0 || x.Renewed {
			t.Error(p, x, e)
		}
		expect(t, l, known, messages(0, 2), base)
	}
	expectTaken(t, taken(t, l, 0, numbered(1)), []api.Message{message(1)}, ackOut(1), false)
}

// P11.3, 1: of no epoch, or of an elder one, nothing, whatever else the packet says.
func TestTakeElder(t *testing.T) {
	l := sending(t, 2, 0)
	for _, epoch := range []uint32{0, 1, known - 1} {
		for _, to := range []uint32{0, own - 1, own, own + 1} {
			for _, m := range append(some(), api.Message{Kind: api.Hello}, api.Message{Kind: api.Ack}) {
				expectNothing(t, taken(t, l, 3, inward(epoch, to, 1, 2, m)))
				expect(t, l, known, messages(0, 2), base)
			}
		}
	}
	fresh := strange(t)
	fresh.Open(0)
	for _, to := range []uint32{0, own - 1, own, own + 1} {
		expectNothing(t, taken(t, fresh, 3, hello(0, to)))
		expect(t, fresh, 0, nil, base)
	}
}

// P11.3, 2: of a greater epoch the session begins anew, whatever is behind that.
func TestTakeRenewed(t *testing.T) {
	for _, epoch := range []uint32{known + 1, known + 9, greatest} {
		l := sending(t, 3, 0)
		for _, seq := range []uint32{1, 3, 5} {
			taken(t, l, 0, numbered(seq))
		}
		expectTaken(t, taken(t, l, 2, hello(epoch, own)), nil, nil, true)
		expect(t, l, epoch, nil, 0)
		expectPackets(t, l.Tick(99), nil)
		if p, e := l.Send(3, message(9)); e != api.OK || !samePacket(p, outward(epoch, 1, 0, message(9))) {
			t.Error("what is sent behind it:", p, e)
		}
		for _, x := range []struct {
			seq uint32
			up  []api.Message
			met uint32
		}{{2, nil, 0}, {1, messages(1, 3), 2}, {3, messages(3, 4), 3}, {4, messages(4, 5), 4}} {
			p := numbered(x.seq)
			p.FromEpoch = epoch
			expectTaken(t, taken(t, l, 3, p), x.up, []api.Packet{outward(epoch, 0, x.met, api.Message{Kind: api.Ack})}, false)
		}
		expectNothing(t, taken(t, l, 3, hello(epoch-1, own)))
		expectNothing(t, taken(t, l, 3, hello(epoch, own)))
	}
}

// P11.3, 2: the alarm that an Open started is off behind it.
func TestTakeRenewedAlarm(t *testing.T) {
	l := strange(t)
	l.Open(0)
	expectTaken(t, taken(t, l, 2, hello(known, own)), nil, nil, true)
	expect(t, l, known, nil, 0)
	expectPackets(t, l.Tick(99), nil)
}

// P11.3, 2: what the packet itself says of numbers is of the session that begins anew.
func TestTakeRenewedOn(t *testing.T) {
	l := sending(t, 3, 0)
	taken(t, l, 0, numbered(1))
	p := inward(known+1, own, 1, 2, message(7))
	expectTaken(t, taken(t, l, 2, p), []api.Message{message(7)}, []api.Packet{outward(known+1, 0, 1, api.Message{Kind: api.Ack})}, true)
	expect(t, l, known+1, nil, 0)
	fresh := strange(t)
	expectTaken(t, taken(t, fresh, 2, numbered(1)), messages(1, 2), ackOut(1), true)
}

// P11.3, 3: to an elder epoch of its own a Hello goes back, to a later one nothing; nothing is acknowledged or met by it.
func TestTakeToEpoch(t *testing.T) {
	for _, m := range append(some(), api.Message{Kind: api.Hello}, api.Message{Kind: api.Ack}) {
		l := sending(t, 3, 0)
		taken(t, l, 0, numbered(1))
		for _, to := range []uint32{0, 1, own - 1} {
			expectTaken(t, taken(t, l, 3, inward(known, to, 2, 2, m)), nil, helloOut(known, 1), false)
		}
		for _, to := range []uint32{own + 1, greatest} {
			expectNothing(t, taken(t, l, 3, inward(known, to, 2, 2, m)))
		}
		expect(t, l, known, messages(0, 3), base)
		expectTaken(t, taken(t, l, 0, numbered(2)), messages(2, 3), ackOut(2), false)
		for _, to := range []uint32{0, own - 1} {
			epoch := l.Known() + 1
			expectTaken(t, taken(t, l, 3, inward(epoch, to, 1, 0, m)), nil, helloOut(epoch, 0), true)
		}
		epoch := l.Known() + 1
		expectTaken(t, taken(t, l, 3, inward(epoch, own+1, 1, 0, m)), nil, nil, true)
		expect(t, l, epoch, nil, 0)
	}
}

// P11.3, 3: a Hello that goes back starts no alarm.
func TestTakeHelloAlarm(t *testing.T) {
	l := strange(t)
	expectTaken(t, taken(t, l, 3, hello(known, 0)), nil, helloOut(known, 0), true)
	expect(t, l, known, nil, 0)
}

// P11.3, 4: those up to Met are acknowledged, by any packet; the alarm is off, or started anew.
func TestTakeMet(t *testing.T) {
	for _, m := range append(some(), api.Message{Kind: api.Hello}, api.Message{Kind: api.Ack}) {
		for met := range uint32(6) {
			l := sending(t, 5, 0)
			taken(t, l, 7, inward(known, own, 0, met, m))
			rings := []uint64{base, 7 + base, 7 + base, 7 + base, 7 + base, 0}[met]
			expect(t, l, known, messages(int(met), 5), rings)
		}
	}
	l := sending(t, 5, 0)
	expectTaken(t, taken(t, l, 7, inward(known, own, 1, 2, message(1))), messages(1, 2), ackOut(1), false)
	expect(t, l, known, messages(2, 5), 7+base)
	taken(t, l, 8, inward(known, own, 100, 3, message(1)))
	expect(t, l, known, messages(3, 5), 8+base)
	taken(t, l, 9, inward(known, own, 1, 5, message(1)))
	expect(t, l, known, nil, 0)
}

// P11.3, 4: what is above the last number sent, or was acknowledged ahead, acknowledges nothing, and leaves the alarm.
func TestTakeMetNothing(t *testing.T) {
	l := sending(t, 5, 0)
	for _, met := range []uint32{0, 6, 7, 1 << 31, greatest} {
		expectNothing(t, taken(t, l, 7, acked(met)))
		expect(t, l, known, messages(0, 5), base)
	}
	taken(t, l, 7, acked(3))
	for _, met := range []uint32{0, 1, 2, 3, 6, greatest} {
		expectNothing(t, taken(t, l, 9, acked(met)))
		expect(t, l, known, messages(3, 5), 7+base)
	}
	taken(t, l, 9, acked(5))
	for _, met := range []uint32{0, 4, 5, 6, greatest} {
		expectNothing(t, taken(t, l, 9, acked(met)))
		expect(t, l, known, nil, 0)
	}
	if p, e := l.Send(11, message(5)); e != api.OK || p.Seq != 6 {
		t.Error(p, e)
	}
	expect(t, l, known, messages(5, 6), 11+base)
}

// P11.3, 4: an alarm that is started anew waits as at first, whatever it waited.
func TestTakeMetTries(t *testing.T) {
	l := sending(t, 2, 0)
	l.Tick(4)
	l.Tick(12)
	expect(t, l, known, messages(0, 2), 28)
	taken(t, l, 13, acked(1))
	expect(t, l, known, messages(1, 2), 13+base)
	l.Tick(17)
	expect(t, l, known, messages(1, 2), 17+2*base)
}

// P11.3, 5: a Hello, an Ack, and whatever has no number are not met, and nothing goes back.
func TestTakeBare(t *testing.T) {
	l := joined(t)
	for _, p := range []api.Packet{
		inward(known, own, 1, 0, api.Message{Kind: api.Hello}), inward(known, own, 1, 0, api.Message{Kind: api.Ack}),
		hello(known, own), acked(0), numbered(0),
	} {
		expectNothing(t, taken(t, l, 0, p))
	}
	for _, m := range some() {
		expectNothing(t, taken(t, l, 0, inward(known, own, 0, 0, m)))
	}
	expectTaken(t, taken(t, l, 0, numbered(1)), messages(1, 2), ackOut(1), false)
}

// P11.3, 5: messages in order are told one by one, of all kinds, each with an Ack; one that comes again is not, but has an Ack, too.
func TestTakeInOrder(t *testing.T) {
	l := joined(t)
	for i, m := range some() {
		seq := uint32(i + 1)
		expectTaken(t, taken(t, l, 0, inward(known, own, seq, 0, m)), []api.Message{m}, ackOut(seq), false)
		for again := uint32(1); again <= seq; again++ {
			expectNotAgain(t, l, again, seq)
		}
	}
	expect(t, l, known, nil, 0)
}

func expectNotAgain(t *testing.T, l *link.Link, seq, met uint32) {
	t.Helper()
	expectTaken(t, taken(t, l, 0, inward(known, own, seq, 0, message(77))), nil, ackOut(met), false)
}

// P11.3, 5: what comes early is told when all ahead of it came, in order; it is the one that came first by its number.
func TestTakeEarly(t *testing.T) {
	l := joined(t)
	for _, x := range []struct {
		seq      uint32
		from, to int // of those that are told
		met      uint32
	}{
		{3, 0, 0, 0}, {2, 0, 0, 0}, {8, 0, 0, 0}, {1, 1, 4, 3}, {5, 0, 0, 3}, {4, 4, 6, 5}, {7, 0, 0, 5}, {6, 6, 9, 8}, {9, 9, 10, 9},
	} {
		expectTaken(t, taken(t, l, 0, numbered(x.seq)), messages(x.from, x.to), ackOut(x.met), false)
		expectNotAgain(t, l, x.seq, x.met)
	}
}

// P11.3, 5: what is more than MaxEarly behind the last in order is not met, and nothing goes back; what is just that is.
func TestTakeFar(t *testing.T) {
	l := joined(t)
	for last := range uint32(40) {
		for _, far := range []uint32{last + maxEarly + 1, last + maxEarly + 2, last + 64, last + 65, last + 1000, 1 << 31, greatest} {
			expectNothing(t, taken(t, l, 0, inward(known, own, far, 0, message(66))))
		}
		expectTaken(t, taken(t, l, 0, numbered(last+1)), messages(int(last+1), int(last+2)), ackOut(last+1), false)
	}
	l = joined(t)
	for seq := uint32(maxEarly); seq > 1; seq-- {
		expectTaken(t, taken(t, l, 0, numbered(seq)), nil, ackOut(0), false)
		expectNothing(t, taken(t, l, 0, numbered(maxEarly+1)))
	}
	expectTaken(t, taken(t, l, 0, numbered(1)), messages(1, maxEarly+1), ackOut(maxEarly), false)
	expectTaken(t, taken(t, l, 0, numbered(2*maxEarly)), nil, ackOut(maxEarly), false)
	expectNothing(t, taken(t, l, 0, numbered(2*maxEarly+1)))
}

// P11.3: a packet whose number is far acknowledges all the same.
func TestTakeFarMet(t *testing.T) {
	l := sending(t, 3, 0)
	expectNothing(t, taken(t, l, 6, inward(known, own, maxEarly+1, 2, message(1))))
	expect(t, l, known, messages(2, 3), 6+base)
}

// P11.4: nothing ahead of the alarm, nor while it is off; then all that wait, as they would be sent now, and it waits twice as long, up to the cap.
func TestTick(t *testing.T) {
	l := joined(t)
	expectPackets(t, l.Tick(lastTick), nil)
	expect(t, l, known, nil, 0)
	sendAll(t, l, 4, 10)
	taken(t, l, 11, acked(1))
	rings := uint64(11 + base)
	for i, wait := range []uint64{8, 16, 16, 16} {
		met := uint32(i + 1)
		taken(t, l, rings-1, numbered(met))
		expectPackets(t, l.Tick(rings-1), nil)
		expect(t, l, known, messages(1, 4), rings)
		var want []api.Packet
		for n := 1; n < 4; n++ {
			want = append(want, outward(known, uint32(n+1), met, message(n)))
		}
		expectPackets(t, l.Tick(rings), want)
		rings += wait
		expect(t, l, known, messages(1, 4), rings)
	}
}

// P11.4: an alarm that is asked late waits from then on.
func TestTickLate(t *testing.T) {
	l := sending(t, 1, 0)
	expectPackets(t, l.Tick(50), []api.Packet{outward(known, 1, 0, message(0))})
	expect(t, l, known, messages(0, 1), 58)
	expectPackets(t, l.Tick(lastTick), []api.Packet{outward(known, 1, 0, message(0))})
	expect(t, l, known, messages(0, 1), lastTick)
}

// P11.4: who knows no epoch says Hello again, if it was opened.
func TestTickHello(t *testing.T) {
	l := strange(t)
	expectPackets(t, l.Tick(lastTick), nil)
	l.Open(1)
	for _, x := range [][2]uint64{{5, 13}, {13, 29}, {29, 45}, {45, 61}} {
		expectPackets(t, l.Tick(x[0]-1), nil)
		expect(t, l, 0, nil, x[0])
		expectPackets(t, l.Tick(x[0]), helloOut(0, 0))
		expect(t, l, 0, nil, x[1])
	}
	taken(t, l, 50, hello(known, own))
	expectPackets(t, l.Tick(61), nil)
}

// P11.4: all of MaxOpen are sent again, in order.
func TestTickFull(t *testing.T) {
	l := sending(t, maxOpen, 0)
	taken(t, l, 0, acked(5))
	for n := maxOpen; n < maxOpen+5; n++ {
		l.Send(0, message(n))
	}
	var want []api.Packet
	for n := 5; n < maxOpen+5; n++ {
		want = append(want, outward(known, uint32(n+1), 0, message(n)))
	}
	expectPackets(t, l.Tick(base), want)
}

// spoil turns all claims of messages.
func spoil(l []api.Message) {
	for _, m := range l {
		for i := range m.Claims {
			m.Claims[i] = api.Claim{Cell: 999, Gen: 999}
		}
		_ = append(m.Claims[:0], api.Claim{Cell: 998})
	}
}

func spoilPackets(l []api.Packet) {
	for _, p := range l {
		spoil([]api.Message{p.Msg})
	}
}

// P11.5: what is sent is only read and not kept, and whatever is done to answers does not reach the link.
func TestNewMemorySent(t *testing.T) {
	l := joined(t)
	want := []api.Message{status(1, 2), status(3, 9)}
	for i, m := range []api.Message{status(1, 2), status(3, 9)} {
		p, e := l.Send(0, m)
		if e != api.OK || !wire.Same(p.Msg, want[i]) || !wire.Same(m, want[i]) {
			t.Error(p, m, e)
		}
		spoil([]api.Message{m})
		if !wire.Same(p.Msg, want[i]) {
			t.Error("the packet shares what was handed in:", p)
		}
		spoilPackets([]api.Packet{p})
		expect(t, l, known, want[:i+1], base)
	}
	first := l.Waiting()
	spoil(first)
	first[0] = message(1)
	expect(t, l, known, want, base)
	again := l.Tick(4)
	spoilPackets(again)
	again[1] = api.Packet{}
	expectPackets(t, l.Tick(12), []api.Packet{outward(known, 1, 0, want[0]), outward(known, 2, 0, want[1])})
	waiting, again := l.Waiting(), l.Tick(28)
	taken(t, l, 28, acked(1))
	l.Send(28, status(5))
	if !sameMessages(waiting, want) || len(again) != 2 || !wire.Same(again[0].Msg, want[0]) || !wire.Same(again[1].Msg, want[1]) {
		t.Error("an answer changed with the link:", waiting, again)
	}
}

// P11.5: so are packets that are taken, early or in order.
func TestNewMemoryTaken(t *testing.T) {
	l := joined(t)
	want := []api.Message{status(1, 2), status(3, 9), status(4)}
	two, three := inward(known, own, 2, 0, status(3, 9)), inward(known, own, 3, 0, status(4))
	taken(t, l, 0, two)
	taken(t, l, 0, three)
	if !wire.Same(two.Msg, want[1]) || !wire.Same(three.Msg, want[2]) {
		t.Error("what was handed in changed:", two, three)
	}
	spoilPackets([]api.Packet{two, three})
	one := inward(known, own, 1, 0, status(1, 2))
	x := taken(t, l, 0, one)
	expectTaken(t, x, want, ackOut(3), false)
	spoilPackets([]api.Packet{one})
	expectTaken(t, x, want, ackOut(3), false)
	spoil(x.Up)
	x.Back[0] = api.Packet{}
	if !wire.Same(one.Msg, api.Message{Kind: api.Status, Claims: []api.Claim{{Cell: 998}, {Cell: 999, Gen: 999}}}) {
		t.Error(one)
	}
	expectTaken(t, taken(t, l, 0, inward(known, own, 3, 0, status(4))), nil, ackOut(3), false)
}

// Calls on none, and on a link that nobody made, answer ErrNil, or nothing; and make none of it.
func TestNone(t *testing.T) {
	for _, l := range []*link.Link{nil, {}, new(link.Link)} {
		for range 2 {
			expectPackets(t, l.Open(1), nil)
			for _, m := range append(some(), wrong()...) {
				if p, e := l.Send(1, m); e != api.ErrNil || !samePacket(p, api.Packet{}) {
					t.Error(p, e)
				}
			}
			for _, p := range []api.Packet{hello(known, own), hello(known, 0), numbered(1), acked(0), {}, {To: 1, FromEpoch: 1, Msg: api.Message{Kind: api.Hello}}} {
				if x, e := l.Take(1, p); e != api.ErrNil || len(x.Up) != 0 || len(x.Back) != 0 || x.Renewed {
					t.Error(p, x, e)
				}
			}
			expectPackets(t, l.Tick(lastTick), nil)
			expect(t, l, 0, nil, 0)
		}
	}
}

// model is the chapter's link: all that was sent and that came in the session, by numbers that are never too great.
type model struct {
	self, peer int
	epoch      uint64
	known      uint64
	sent       []api.Message
	gone       int // how many of them were acknowledged
	came       map[uint64]api.Message
	handed     int
	on         bool
	at, delay  uint64
}

func modelOf(self, peer int, epoch uint32) *model {
	return &model{self: self, peer: peer, epoch: uint64(epoch), came: map[uint64]api.Message{}}
}

func (m *model) last() uint64 {
	n := uint64(0)
	for {
		if _, is := m.came[n+1]; !is {
			return n
		}
		n++
	}
}

func (m *model) packet(seq int, msg api.Message) api.Packet {
	return api.Packet{From: m.self, To: m.peer, FromEpoch: uint32(m.epoch), ToEpoch: uint32(m.known), Seq: uint32(seq), Met: uint32(m.last()), Msg: msg}
}

func (m *model) hello() []api.Packet {
	return []api.Packet{m.packet(0, api.Message{Kind: api.Hello})}
}

func (m *model) start(now uint64) { m.on, m.at, m.delay = true, now+base, base }

func (m *model) stop() { m.on, m.at, m.delay = false, 0, 0 }

func (m *model) open(now uint64) []api.Packet {
	if m.known > 0 {
		return nil
	}
	m.start(now)
	return m.hello()
}

func (m *model) send(now uint64, msg api.Message) (api.Packet, api.Errno) {
	if wire.CheckMessage(msg) != api.OK || msg.Kind == api.Hello || msg.Kind == api.Ack {
		return api.Packet{}, api.ErrPacket
	}
	if m.known == 0 {
		return api.Packet{}, api.ErrLink
	}
	if len(m.sent)-m.gone == maxOpen {
		return api.Packet{}, api.ErrRoom
	}
	m.sent = append(m.sent, msg)
	if !m.on {
		m.start(now)
	}
	return m.packet(len(m.sent), msg), api.OK
}

func (m *model) take(now uint64, p api.Packet) (x link.Taken, e api.Errno) {
	if wire.Check(p) != api.OK || p.From != m.peer || p.To != m.self {
		return x, api.ErrArg
	}
	from, to := uint64(p.FromEpoch), uint64(p.ToEpoch)
	if from == 0 || from < m.known {
		return x, api.OK
	}
	if from > m.known {
		*m = *modelOf(m.self, m.peer, uint32(m.epoch))
		m.known = from
		x.Renewed = true
	}
	if to != m.epoch {
		if to < m.epoch {
			x.Back = m.hello()
		}
		return x, api.OK
	}
	if met := uint64(p.Met); met <= uint64(len(m.sent)) && int(met) > m.gone {
		m.gone = int(met)
		m.start(now)
	}
	if m.gone == len(m.sent) {
		m.stop()
	}
	seq := uint64(p.Seq)
	if p.Msg.Kind == api.Hello || p.Msg.Kind == api.Ack || seq == 0 || seq > m.last()+maxEarly {
		return x, api.OK
	}
	if _, is := m.came[seq]; !is {
		m.came[seq] = p.Msg
	}
	for uint64(m.handed) < m.last() {
		m.handed++
		x.Up = append(x.Up, m.came[uint64(m.handed)])
	}
	x.Back = []api.Packet{m.packet(0, api.Message{Kind: api.Ack})}
	return x, api.OK
}

func (m *model) tick(now uint64) []api.Packet {
	if !m.on || now < m.at {
		return nil
	}
	m.delay = min(2*m.delay, most)
	m.at = now + m.delay
	if m.known == 0 {
		return m.hello()
	}
	var l []api.Packet
	for i := m.gone; i < len(m.sent); i++ {
		l = append(l, m.packet(i+1, m.sent[i]))
	}
	return l
}

// drawn is any packet, most of them near to what the link would take.
func drawn(r *rand.Rand, m *model, n int) api.Packet {
	kinds := append(some(), message(n), message(n), status(n%9, 10+n%9), api.Message{Kind: api.Hello}, api.Message{Kind: api.Ack})
	p := api.Packet{From: m.peer, To: m.self, FromEpoch: uint32(m.known), ToEpoch: uint32(m.epoch), Msg: kinds[r.Intn(len(kinds))]}
	p.Seq = uint32(max(0, int(m.last())+r.Intn(maxEarly+8)-4))
	p.Met = uint32(max(0, m.gone+r.Intn(8)-2))
	switch r.Intn(40) {
	case 0, 1:
		p.FromEpoch += uint32(r.Intn(3))
	case 2, 3:
		p.FromEpoch -= uint32(r.Intn(int(m.known) + 1))
	case 4:
		p.FromEpoch = 0
	case 5, 6:
		p.ToEpoch = uint32(r.Intn(int(m.epoch) + 3))
	case 7:
		p.From = r.Intn(5) - 1
	case 8:
		p.To = r.Intn(5) - 1
	case 9:
		p.Msg = wrong()[r.Intn(len(wrong()))]
	case 10:
		p.Seq = r.Uint32()
	case 11:
		p.Met = r.Uint32()
	}
	return p
}

// P11.1 to P11.4: whatever is done, each answer is the model's.
func TestModel(t *testing.T) {
	r := rand.New(rand.NewSource(11))
	for range 300 {
		l, m := strange(t), modelOf(self, peer, own)
		now := uint64(0)
		for n := range 300 {
			now += uint64(r.Intn(3))
			switch r.Intn(9) {
			case 0:
				expectPackets(t, l.Open(now), m.open(now))
			case 1, 2, 3:
				msg := message(n)
				if r.Intn(10) == 0 {
					msg = append(some(), wrong()...)[r.Intn(20)]
				}
				p, e := l.Send(now, msg)
				if q, f := m.send(now, msg); e != f || !samePacket(p, q) {
					t.Errorf("Send(%v) = %v %v, not %v %v", msg, p, e, q, f)
				}
			case 4, 5, 6, 7:
				p := drawn(r, m, n)
				x, e := l.Take(now, copied(p))
				y, f := m.take(now, p)
				if e != f {
					t.Errorf("Take(%v) = %v, not %v", p, e, f)
				}
				expectTaken(t, x, y.Up, y.Back, y.Renewed)
			case 8:
				expectPackets(t, l.Tick(now), m.tick(now))
			}
			expect(t, l, uint32(m.known), m.sent[m.gone:], m.at)
			if t.Failed() {
				t.FailNow()
			}
		}
	}
}

// side is a robot of the network: its link, and what that sent and handed up, by sessions.
type side struct {
	l     *link.Link
	epoch uint32
	sent  map[[2]uint32][]api.Message // by its own epoch and the peer's
	up    map[[2]uint32][]api.Message
}

// network is of two robots, 0 and 1; each packet in flight may come whenever it likes, any number of times.
type network struct {
	t     *testing.T
	r     *rand.Rand
	now   uint64
	sides [2]*side
	fly   []api.Packet
	count int
}

func newNetwork(t *testing.T, r *rand.Rand) *network {
	w := &network{t: t, r: r}
	for i := range w.sides {
		w.sides[i] = &side{sent: map[[2]uint32][]api.Message{}, up: map[[2]uint32][]api.Message{}}
		w.wake(i)
	}
	return w
}

// wake lets a robot come up again: nothing is left of its link.
func (w *network) wake(i int) {
	s := w.sides[i]
	s.epoch++
	s.l = made(w.t, i, 1-i, s.epoch)
	w.fly = append(w.fly, s.l.Open(w.now)...)
}

func (w *network) send(i int) {
	s := w.sides[i]
	w.count++
	p, e := s.l.Send(w.now, message(w.count))
	if e != api.OK {
		return
	}
	at := [2]uint32{s.epoch, s.l.Known()}
	s.sent[at] = append(s.sent[at], p.Msg)
	w.fly = append(w.fly, p)
}

func (w *network) deliver(p api.Packet) {
	s := w.sides[p.To]
	x := taken(w.t, s.l, w.now, p)
	at := [2]uint32{s.epoch, s.l.Known()}
	s.up[at] = append(s.up[at], x.Up...)
	w.fly = append(w.fly, x.Back...)
}

func (w *network) tick(i int) {
	w.now++
	w.fly = append(w.fly, w.sides[i].l.Tick(w.now)...)
}

// turn does something: what is in flight is delivered, dropped, doubled, or left.
func (w *network) turn(crash bool) {
	i := w.r.Intn(2)
	switch k := w.r.Intn(100); {
	case crash && k == 0:
		w.wake(i)
	case k < 25:
		w.send(i)
	case k < 40:
		w.tick(i)
	case len(w.fly) > 0:
		n := w.r.Intn(len(w.fly))
		p := w.fly[n]
		if k < 90 {
			w.deliver(p)
		}
		if k < 70 || k >= 90 {
			w.fly = slices.Delete(w.fly, n, n+1)
		}
	}
	w.bounded(i)
}

func (w *network) bounded(i int) {
	w.t.Helper()
	l := w.sides[i].l
	if n := len(l.Waiting()); n > maxOpen {
		w.t.Fatal(n, "were not acknowledged")
	}
	if n := l.Early(); n > maxEarly {
		w.t.Fatal(n, "came early")
	}
}

// check holds that what came up is a beginning of what was sent, session by session.
func (w *network) check() {
	w.t.Helper()
	for i, s := range w.sides {
		for at, up := range s.up {
			sent := w.sides[1-i].sent[[2]uint32{at[1], at[0]}]
			if len(up) > len(sent) || !sameMessages(up, sent[:len(up)]) {
				w.t.Fatalf("robot %d, session %v: up %v, sent %v", i, at, up, sent)
			}
		}
	}
}

// whole holds that all that was sent in the last session came up, and that there is nothing left to do.
func (w *network) whole() {
	w.t.Helper()
	for i, s := range w.sides {
		at, back := [2]uint32{s.epoch, w.sides[1-i].epoch}, [2]uint32{w.sides[1-i].epoch, s.epoch}
		if s.l.Known() != at[1] || len(s.l.Waiting()) != 0 || !sameMessages(s.up[at], w.sides[1-i].sent[back]) {
			w.t.Fatalf("robot %d, session %v: knows %d, waits %v, up %v, sent %v", i, at, s.l.Known(), s.l.Waiting(), s.up[at], w.sides[1-i].sent[back])
		}
		if at, on := s.l.Rings(); on || s.l.Early() != 0 {
			w.t.Fatal("an alarm, or messages are left:", at, s.l.Early())
		}
	}
}

// settle lets all packets come, and time pass, until there is nothing left to do.
func (w *network) settle() {
	w.t.Helper()
	for range 60 {
		for i := range w.sides {
			w.tick(i)
		}
		for came := 0; len(w.fly) > 0; came++ {
			if came > 10000 {
				w.t.Fatal("packets without end")
			}
			p := w.fly[0]
			w.fly = slices.Delete(w.fly, 0, 1)
			w.deliver(p)
		}
	}
}

// P11.6: what is handed up is a beginning of what was sent, whatever is lost, doubled, delayed, or of elder epochs; and all of it, once packets come again.
func TestNetwork(t *testing.T) {
	r := rand.New(rand.NewSource(12))
	for run := range 150 {
		w := newNetwork(t, r)
		for range 1000 {
			w.turn(run%3 > 0)
			w.check()
		}
		w.settle()
		w.check()
		w.whole()
	}
}

// P11.6: a session in which much comes up goes on beyond all windows.
func TestNetworkLong(t *testing.T) {
	w := newNetwork(t, rand.New(rand.NewSource(13)))
	for range 40000 {
		w.turn(false)
	}
	w.check()
	if n := len(w.sides[0].up[[2]uint32{1, 1}]); n < 200 {
		t.Error("only", n, "came up")
	}
}

// P11.6: no more come early than those within MaxEarly, whatever else comes ahead of the first one; none is kept that was told.
func TestEarlyBound(t *testing.T) {
	l := joined(t)
	for seq := uint32(200); seq > 1; seq-- {
		x := taken(t, l, 0, numbered(seq))
		if far := seq > maxEarly; far != (len(x.Back) == 0) || len(x.Up) != 0 || l.Early() != max(0, maxEarly+1-int(seq)) {
			t.Error(seq, x, l.Early())
		}
	}
	expectTaken(t, taken(t, l, 0, numbered(1)), messages(1, maxEarly+1), ackOut(maxEarly), false)
	for seq := range uint32(maxEarly + 1) {
		taken(t, l, 0, numbered(seq))
	}
	if n := l.Early(); n != 0 {
		t.Error(n, "are kept")
	}
}
