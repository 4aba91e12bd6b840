package wire_test

import (
	"bytes"
	"encoding/binary"
	"math"
	"math/rand"
	"slices"
	"strings"
	"testing"

	"wagonway/api"
	"wagonway/wire"
)

// chapter is the chapter's own table of kinds.
var chapter = []struct {
	kind        int
	word, names string
}{
	{api.Request, "request", "Cell Stamp Prio"},
	{api.Grant, "grant", "Cell Gen Stamp"},
	{api.Release, "release", "Cell Gen"},
	{api.Ack, "ack", ""},
	{api.Deny, "deny", "Cell Stamp Other"},
	{api.Probe, "probe", "Cell Origin Other Prio Hops"},
	{api.Abort, "abort", "Origin Other"},
	{api.Inherit, "inherit", "Cell Prio"},
	{api.Hello, "hello", ""},
	{api.Recall, "recall", "Cell Gen"},
	{api.Status, "status", "Claims"},
}

// noKinds are numbers of no kind, some of which have a kind's lowest byte.
var noKinds = []int{0, 12, 13, 255, 256, 256 + api.Hello, 1<<32 + api.Hello, -1, -api.Hello, api.Hello - 256, math.MaxInt, math.MinInt}

// value is a field with a number of it, or with claims.
type value struct {
	field string
	n     int
	list  []api.Claim
	may   bool // if it is named
}

// in makes a message have it.
func (v value) in(m api.Message) api.Message {
	switch v.field {
	case "Cell":
		m.Cell = v.n
	case "Gen":
		m.Gen = uint32(v.n)
	case "Stamp":
		m.Stamp = uint64(v.n)
	case "Prio":
		m.Prio = v.n
	case "Hops":
		m.Hops = v.n
	case "Origin":
		m.Origin = v.n
	case "Other":
		m.Other = v.n
	case "Claims":
		m.Claims = slices.Clone(v.list)
	}
	return m
}

// zero says whether it is what a field has that is not named.
func (v value) zero() bool { return v.n == 0 && len(v.list) == 0 }

// values are those at the edges that the chapter names, beyond them, and some between.
func values() []value {
	var all []value
	bounded := func(field string, least, most int) {
		for _, n := range []int{least, least + 1, 0, 1, 7, most - 1, most} {
			all = append(all, value{field: field, n: n, may: true})
		}
		for _, n := range []int{least - 1, least - 2, most + 1, most + 2, most + 256, -256, 254, 1 << 16, 1<<16 + 1, 1<<32 + 1, math.MaxInt, math.MinInt, math.MaxInt32, math.MinInt32} {
			if n < least || n > most { // 254 is a cell
				all = append(all, value{field: field, n: n})
			}
		}
	}
	bounded("Cell", 0, 1023)
	bounded("Prio", 0, 15)
	bounded("Hops", 0, 64)
	bounded("Origin", 0, 63)
	bounded("Other", -1, 63)
	for _, n := range []int{255, 127, 128} { // bytes of -1, of 127 and of -128
		all = append(all, value{field: "Other", n: n}, value{field: "Origin", n: n}, value{field: "Hops", n: n}, value{field: "Prio", n: n})
	}
	for _, n := range []int{0, 1, 255, 256, 1<<31 - 1, 1 << 31, 1<<32 - 1} {
		all = append(all, value{field: "Gen", n: n, may: true})
	}
	for _, n := range []int{0, 1, 255, 1<<32 - 1, 1 << 32, math.MaxInt, math.MinInt, math.MinInt + 1, -2, -1} {
		all = append(all, value{field: "Stamp", n: n, may: true})
	}
	for _, list := range [][]api.Claim{
		nil, {}, {{}}, {{Cell: 0, Gen: 1}}, {{Cell: 1023, Gen: 1<<32 - 1}}, {{Cell: 0, Gen: 5}, {Cell: 1, Gen: 4}},
		{{Cell: 3}, {Cell: 900}, {Cell: 1023}}, row(2, 0, 1), row(15, 0, 1), row(16, 0, 1), row(16, 1023-15, 1), row(16, 3, 60),
	} {
		all = append(all, value{field: "Claims", list: list, may: true})
	}
	for _, list := range [][]api.Claim{
		row(17, 0, 1), row(17, 900, 2), row(256, 0, 1), row(257, 0, 1), row(1024, 0, 1), // too many: some whose number has a lesser lowest byte
		{{Cell: -1}}, {{Cell: 1024}}, {{Cell: 0}, {Cell: 1024}}, {{Cell: -1}, {Cell: 0}}, {{Cell: 1 << 16}}, {{Cell: math.MaxInt}}, {{Cell: math.MinInt}},
		{{Cell: 4}, {Cell: math.MaxInt}, {Cell: 5}}, {{Cell: math.MaxInt}, {Cell: 4}},
		{{}, {}}, {{Cell: 1}, {Cell: 1}}, {{Cell: 1, Gen: 1}, {Cell: 1, Gen: 2}}, {{Cell: 1023}, {Cell: 1023}},
		{{Cell: 2}, {Cell: 1}}, {{Cell: 1}, {Cell: 3}, {Cell: 2}}, {{Cell: 1}, {Cell: 3}, {Cell: 3}, {Cell: 4}}, row(16, 100, -1),
	} {
		all = append(all, value{field: "Claims", list: list})
	}
	return all
}

// row are so many claims, from a cell on, by steps.
func row(many, from, step int) []api.Claim {
	var list []api.Claim
	for i := range many {
		list = append(list, api.Claim{Cell: from + i*step, Gen: uint32(i) << 27})
	}
	return list
}

// plainMessages are of each kind one, in which what it names is not zero, and of the Status one more.
func plainMessages() []api.Message {
	return []api.Message{
		{Kind: api.Request, Cell: 258, Stamp: 0x0102030405060708, Prio: 15},
		{Kind: api.Grant, Cell: 1023, Gen: 0x11121314, Stamp: 0xf102030405060708},
		{Kind: api.Release, Cell: 1, Gen: 0xf1121314},
		{Kind: api.Ack},
		{Kind: api.Deny, Cell: 256, Stamp: 1<<64 - 1, Other: 63},
		{Kind: api.Probe, Cell: 5, Origin: 63, Other: -1, Prio: 3, Hops: 64},
		{Kind: api.Abort, Origin: 2, Other: 1},
		{Kind: api.Inherit, Cell: 9, Prio: 7},
		{Kind: api.Hello},
		{Kind: api.Recall, Cell: 1022, Gen: 1},
		{Kind: api.Status, Claims: []api.Claim{{Cell: 2, Gen: 0x21222324}, {Cell: 770, Gen: 3}}},
		{Kind: api.Status},
	}
}

// plainBytes are those of plainMessages, complements left out, behind a packet's kind.
func plainBytes() [][]byte {
	return [][]byte{
		{1, 1, 2, 1, 2, 3, 4, 5, 6, 7, 8, 15},
		{2, 3, 255, 0x11, 0x12, 0x13, 0x14, 0xf1, 2, 3, 4, 5, 6, 7, 8},
		{3, 0, 1, 0xf1, 0x12, 0x13, 0x14},
		{4},
		{5, 1, 0, 255, 255, 255, 255, 255, 255, 255, 255, 63},
		{6, 0, 5, 63, 255, 3, 64},
		{7, 2, 1},
		{8, 0, 9, 7},
		{9},
		{10, 3, 254, 0, 0, 0, 1},
		{11, 2, 0, 2, 0x21, 0x22, 0x23, 0x24, 3, 2, 0, 0, 0, 3},
		{11, 0},
	}
}

func packetOf(m api.Message) api.Packet {
	return api.Packet{From: 63, To: 4, FromEpoch: 0x31323334, ToEpoch: 1<<32 - 1, Seq: 0xf1000002, Met: 0x00030005, Msg: m}
}

var plainHead = []byte{63, 4, 0x31, 0x32, 0x33, 0x34, 255, 255, 255, 255, 0xf1, 0, 0, 2, 0, 3, 0, 5}

// doubled are bytes, and behind each its complement.
func doubled(plain []byte) []byte {
	var b []byte
	for _, c := range plain {
		b = append(b, c, 255-c)
	}
	return b
}

// chapterBytes are a packet's by the chapter's words.
func chapterBytes(p api.Packet) []byte {
	b := []byte{byte(p.From), byte(p.To)}
	for _, n := range []uint32{p.FromEpoch, p.ToEpoch, p.Seq, p.Met} {
		b = binary.BigEndian.AppendUint32(b, n)
	}
	m := p.Msg
	b = append(b, byte(m.Kind))
	for _, name := range strings.Fields(namesOf(m.Kind)) {
		switch name {
		case "Cell":
			b = binary.BigEndian.AppendUint16(b, uint16(m.Cell))
		case "Gen":
			b = binary.BigEndian.AppendUint32(b, m.Gen)
		case "Stamp":
			b = binary.BigEndian.AppendUint64(b, m.Stamp)
		case "Prio":
			b = append(b, byte(m.Prio))
		case "Hops":
			b = append(b, byte(m.Hops))
		case "Origin":
			b = append(b, byte(m.Origin))
		case "Other":
			b = append(b, byte((m.Other+256)%256))
		case "Claims":
			b = append(b, byte(len(m.Claims)))
			for _, c := range m.Claims {
				b = binary.BigEndian.AppendUint16(b, uint16(c.Cell))
				b = binary.BigEndian.AppendUint32(b, c.Gen)
			}
		}
	}
	return doubled(b)
}

func namesOf(kind int) string {
	for _, c := range chapter {
		if c.kind == kind {
			return c.names
		}
	}
	return ""
}

// edged tells each message that is one of plainMessages with one value of a field, and whether it may be.
func edged(tell func(m api.Message, may bool)) {
	for _, m := range plainMessages() {
		named := strings.Fields(namesOf(m.Kind))
		for _, v := range values() {
			if slices.Contains(named, v.field) {
				tell(v.in(m), v.may)
			} else {
				tell(v.in(m), v.zero())
			}
		}
	}
	for _, kind := range noKinds {
		tell(api.Message{Kind: kind}, false)
		tell(api.Message{Kind: kind, Cell: 1}, false)
		tell(api.Message{Kind: kind, Claims: []api.Claim{{Cell: 1, Gen: 1}}}, false)
	}
}

// drawnMessage is one that may be, out of draws.
func drawnMessage(r *rand.Rand) api.Message {
	kind := chapter[r.Intn(len(chapter))]
	m := api.Message{Kind: kind.kind}
	all := values()
	for _, name := range strings.Fields(kind.names) {
		var may []value
		for _, v := range all {
			if v.field == name && v.may {
				may = append(may, v)
			}
		}
		m = may[r.Intn(len(may))].in(m)
		if name == "Stamp" && r.Intn(2) == 0 {
			m.Stamp = r.Uint64()
		}
		if name == "Gen" && r.Intn(2) == 0 {
			m.Gen = r.Uint32()
		}
		if name == "Claims" && r.Intn(2) == 0 {
			m.Claims = drawnClaims(r)
		}
	}
	return m
}

func drawnClaims(r *rand.Rand) []api.Claim {
	cells := r.Perm(api.MaxCells)[:r.Intn(api.MaxClaims+1)]
	slices.Sort(cells)
	var list []api.Claim
	for _, cell := range cells {
		list = append(list, api.Claim{Cell: cell, Gen: r.Uint32()})
	}
	return list
}

func drawnPacket(r *rand.Rand) api.Packet {
	ends := r.Perm(api.MaxRobots)
	p := api.Packet{From: ends[0], To: ends[1], Msg: drawnMessage(r)}
	for _, n := range []*uint32{&p.FromEpoch, &p.ToEpoch, &p.Seq, &p.Met} {
		*n = []uint32{0, 1, 1<<31 - 1, 1 << 31, 1<<32 - 1, r.Uint32()}[r.Intn(6)]
	}
	return p
}

func samePacket(a, b api.Packet) bool {
	return sameHead(a, b) && sameMessage(a.Msg, b.Msg)
}

func sameHead(a, b api.Packet) bool {
	return a.From == b.From && a.To == b.To && a.FromEpoch == b.FromEpoch && a.ToEpoch == b.ToEpoch && a.Seq == b.Seq && a.Met == b.Met
}

func sameMessage(x, y api.Message) bool {
	return x.Kind == y.Kind && x.Cell == y.Cell && x.Gen == y.Gen && x.Stamp == y.Stamp && x.Prio == y.Prio && x.Hops == y.Hops &&
		x.Origin == y.Origin && x.Other == y.Other && slices.Equal(x.Claims, y.Claims)
}

// zeroPacket says whether a packet has nothing.
func zeroPacket(p api.Packet) bool { return samePacket(p, api.Packet{}) }

// copied is a packet that shares no memory with another one.
func copied(p api.Packet) api.Packet {
	p.Msg.Claims = slices.Clone(p.Msg.Claims)
	return p
}

// P7.1: what a message may have in each field, of each kind.
func TestCheckMessage(t *testing.T) {
	edged(func(m api.Message, may bool) {
		want := api.OK
		if !may {
			want = api.ErrPacket
		}
		if e := wire.CheckMessage(m); e != want {
			t.Errorf("CheckMessage(%+v) = %v, not %v", m, e, want)
		}
		p := packetOf(m)
		if e := wire.Check(p); e != want {
			t.Errorf("Check(%+v) = %v, not %v", p, e, want)
		}
		b, e := wire.Bytes(p)
		if e != want || !may && len(b) != 0 || may && !bytes.Equal(b, chapterBytes(p)) {
			t.Errorf("Bytes(%+v) = %v %v", p, b, e)
		}
	})
}

// P7.1: a message of no kind, and fields that are not named, each by itself.
func TestCheckMessageOfNothing(t *testing.T) {
	if e := wire.CheckMessage(api.Message{}); e != api.ErrPacket {
		t.Error(e)
	}
	for _, c := range chapter {
		for _, name := range []string{"Cell", "Gen", "Stamp", "Prio", "Hops", "Origin", "Other", "Claims"} {
			m := value{field: name, n: 1, list: []api.Claim{{Cell: 1, Gen: 1}}}.in(api.Message{Kind: c.kind})
			named := slices.Contains(strings.Fields(c.names), name)
			if e := wire.CheckMessage(m); (e == api.OK) != named {
				t.Error(c.word, name, e)
			}
		}
		if e := wire.CheckMessage(api.Message{Kind: c.kind}); e != api.OK { // zero may be in each field
			t.Error(c.word, e)
		}
		if e := wire.CheckMessage(api.Message{Kind: c.kind, Other: -1}); (e == api.OK) != strings.Contains(c.names, "Other") {
			t.Error(c.word, "Other -1", e)
		}
		if e := wire.CheckMessage(api.Message{Kind: c.kind, Claims: []api.Claim{}}); e != api.OK {
			t.Error(c.word, "claims that are empty", e)
		}
	}
}

// P7.1: a packet's ends are two robots.
func TestCheckEnds(t *testing.T) {
	ends := []int{-1, 0, 1, 2, 31, 62, 63, 64, 65, 127, 128, 255, 256, 257, -255, 1 << 32, math.MaxInt, math.MinInt}
	robot := func(n int) bool { return n >= 0 && n <= 63 }
	for _, from := range ends {
		for _, to := range ends {
			p := api.Packet{From: from, To: to, Msg: api.Message{Kind: api.Hello}}
			want := api.ErrPacket
			if robot(from) && robot(to) && from != to {
				want = api.OK
			}
			if e := wire.Check(p); e != want {
				t.Error(from, to, e)
			}
			b, e := wire.Bytes(p)
			if e != want || (len(b) == 38) != (want == api.OK) || want != api.OK && len(b) != 0 {
				t.Error(from, to, b, e)
			}
		}
	}
}

// P7.1: epochs and numbers may be any, whatever the message is.
func TestCheckNumbers(t *testing.T) {
	for _, m := range plainMessages() {
		for _, n := range []uint32{0, 1, 1<<31 - 1, 1 << 31, 1<<32 - 1} {
			for _, p := range []api.Packet{
				{From: 0, To: 63, Msg: m}, {From: 1, FromEpoch: n, Msg: m}, {From: 1, ToEpoch: n, Msg: m}, {From: 1, Seq: n, Msg: m}, {From: 1, Met: n, Msg: m},
			} {
				b, e := wire.Bytes(p)
				if c := wire.Check(p); c != api.OK || e != api.OK || !bytes.Equal(b, chapterBytes(p)) {
					t.Errorf("%+v: %v %v %v", p, c, e, b)
				}
			}
		}
	}
}

// P7.1: the chapter's example.
func TestHello(t *testing.T) {
	p := api.Packet{From: 1, To: 2, FromEpoch: 1, Msg: api.Message{Kind: api.Hello}}
	want := []byte{
		1, 254, 2, 253,
		0, 255, 0, 255, 0, 255, 1, 254, 0, 255, 0, 255, 0, 255, 0, 255,
		0, 255, 0, 255, 0, 255, 0, 255, 0, 255, 0, 255, 0, 255, 0, 255,
		9, 246,
	}
	b, e := wire.Bytes(p)
	if e != api.OK || !bytes.Equal(b, want) || len(b) != 38 {
		t.Fatal(b, e)
	}
	if q, e := wire.Read(want); e != api.OK || !samePacket(q, p) {
		t.Error(q, e)
	}
	last := slices.Clone(want)
	last[37] = 245
	if q, e := wire.Read(last); e != api.ErrWire || !zeroPacket(q) {
		t.Error(q, e)
	}
	if q, e := wire.Read(want[:37]); e != api.ErrWire || !zeroPacket(q) {
		t.Error(q, e)
	}
}

// P7.1: of each kind the bytes, written out.
func TestBytes(t *testing.T) {
	for i, m := range plainMessages() {
		p := packetOf(m)
		want := doubled(slices.Concat(plainHead, plainBytes()[i]))
		b, e := wire.Bytes(p)
		if e != api.OK || !bytes.Equal(b, want) {
			t.Errorf("Bytes(%+v) = %v %v, not %v", p, b, e, want)
		}
		if q, e := wire.Read(want); e != api.OK || !samePacket(p, q) {
			t.Errorf("Read(%v) = %+v %v", want, q, e)
		}
	}
}

// P7.1: bytes with their complements that are no packet's, as something in them may not be.
func TestReadRefuses(t *testing.T) {
	head := func(from, to byte) []byte { return append([]byte{from, to}, make([]byte, 16)...) }
	cells := func(many byte, cells ...int) []byte {
		b := append(head(1, 2), 11, many)
		for _, c := range cells {
			b = append(b, byte(c>>8), byte(c), 0, 0, 0, 1)
		}
		return b
	}
	var all [][]byte
	for n := range 256 {
		c := byte(n)
		if n >= 64 {
			all = append(all, append(head(c, 1), 9), append(head(1, c), 9))
			if n != 255 {
				all = append(all, append(head(1, 2), 7, 0, c), append(head(1, 2), 5, 0, 0, 0, 0, 0, 0, 0, 0, 0, 0, c))
			}
			all = append(all, append(head(1, 2), 7, c, 0))
		}
		if n > 64 {
			all = append(all, append(head(1, 2), 6, 0, 0, 0, 0, 0, c))
		}
		if n > 15 {
			all = append(all, append(head(1, 2), 8, 0, 0, c), append(head(1, 2), 6, 0, 0, 0, 0, c, 0))
		}
		if n < 1 || n > 11 {
			all = append(all, append(head(1, 2), c))
		}
		if n > 3 {
			all = append(all, append(head(1, 2), 3, c, 0, 0, 0, 0, 0), append(head(1, 2), 8, c, 0, 0))
		}
		if n > 16 {
			rising := make([]int, n)
			for i := range rising {
				rising[i] = i
			}
			all = append(all, cells(c, rising...), cells(c))
		}
		all = append(all, append(head(c, c), 9))
	}
	all = append(all, cells(0, 1), cells(1), cells(1, 1, 2), cells(2, 1), cells(2, 1, 1), cells(2, 2, 1), cells(3, 1, 3, 2), cells(1, 1024), cells(2, 0, 1024), cells(1, 65535))
	all = append(all, []byte{}, []byte{1}, head(1, 2), head(1, 2)[:17])
	for _, plain := range all {
		if p, e := wire.Read(doubled(plain)); e != api.ErrWire || !zeroPacket(p) {
			t.Errorf("Read of %v = %+v %v", plain, p, e)
		}
	}
	if p, e := wire.Read(doubled(cells(2, 1, 1023))); e != api.OK || !slices.Equal(p.Msg.Claims, []api.Claim{{Cell: 1, Gen: 1}, {Cell: 1023, Gen: 1}}) {
		t.Error(p, e)
	}
}

// P7.1: bytes that are nothing like a packet's.
func TestReadNothing(t *testing.T) {
	for _, b := range [][]byte{nil, {}, {0}, {0, 255}, {1, 254}, {255}, make([]byte, 38), make([]byte, 64), bytes.Repeat([]byte{255}, 38), bytes.Repeat([]byte{0, 255}, 19), bytes.Repeat([]byte{255, 0}, 100), bytes.Repeat([]byte{9, 246}, 1000), make([]byte, 1<<20), bytes.Repeat([]byte{11, 244}, 1<<19)} {
		if p, e := wire.Read(b); e != api.ErrWire || !zeroPacket(p) {
			t.Error(len(b), p, e)
		}
	}
	// The bytes of a packet, complements left out.
	for i, plain := range plainBytes() {
		if p, e := wire.Read(slices.Concat(plainHead, plain)); e != api.ErrWire || !zeroPacket(p) {
			t.Error(i, p, e)
		}
	}
}

// P7.2
func TestSize(t *testing.T) {
	edged(func(m api.Message, may bool) {
		want := 0
		if may {
			want = len(chapterBytes(packetOf(m)))
		}
		if n := wire.Size(m); n != want {
			t.Errorf("Size(%+v) = %d, not %d", m, n, want)
		}
	})
	for i, want := range []int{60, 66, 50, 38, 60, 50, 42, 44, 38, 50, 64, 40} {
		if n := wire.Size(plainMessages()[i]); n != want {
			t.Error(i, n, want)
		}
	}
	if n := wire.Size(api.Message{Kind: api.Status, Claims: row(16, 0, 1)}); n != 40+16*12 {
		t.Error(n)
	}
	if n := wire.Size(api.Message{Kind: api.Request, Cell: 1024}); n != 0 {
		t.Error(n)
	}
	if n := wire.Size(api.Message{}); n != 0 {
		t.Error(n)
	}
}

// P7.2
func TestName(t *testing.T) {
	for _, c := range chapter {
		if got := wire.Name(c.kind); got != c.word {
			t.Error(c.kind, got)
		}
	}
	for _, kind := range noKinds {
		if got := wire.Name(kind); got != "" {
			t.Error(kind, got)
		}
	}
}

// P7.2: messages are the same if all fields are, any messages.
func TestSame(t *testing.T) {
	full := api.Message{Kind: 1, Cell: 2, Gen: 3, Stamp: 4, Prio: 5, Hops: 6, Origin: 7, Other: 8, Claims: []api.Claim{{Cell: 9, Gen: 10}, {Cell: 11, Gen: 12}}}
	odd := api.Message{Kind: -5, Cell: math.MinInt, Gen: 1<<32 - 1, Stamp: 1<<64 - 1, Prio: math.MaxInt, Hops: -1, Origin: -64, Other: math.MinInt, Claims: []api.Claim{{Cell: -4}, {Cell: -4}}}
	for _, m := range append(plainMessages(), api.Message{}, full, odd) {
		var others []api.Message
		for _, step := range []int{1, -1, 256, 1 << 32, math.MinInt} {
			kind, cell, prio, hops, origin, other := m, m, m, m, m, m
			kind.Kind += step
			cell.Cell += step
			prio.Prio += step
			hops.Hops += step
			origin.Origin += step
			other.Other += step
			stamp := m
			stamp.Stamp += uint64(step)
			others = append(others, kind, cell, prio, hops, origin, other, stamp)
		}
		for _, step := range []uint32{1, 256, 1 << 31, 1<<32 - 1} {
			gen := m
			gen.Gen += step
			others = append(others, gen)
		}
		others = append(others, otherClaims(m)...)
		for _, x := range others {
			if wire.Same(m, x) || wire.Same(x, m) {
				t.Errorf("Same(%+v, %+v)", m, x)
			}
		}
		x := m
		x.Claims = slices.Clone(m.Claims)
		if !wire.Same(m, x) || !wire.Same(m, m) {
			t.Errorf("not Same(%+v)", m)
		}
	}
}

// otherClaims are messages that differ from one by their claims alone.
func otherClaims(m api.Message) []api.Message {
	var others []api.Message
	put := func(list []api.Claim) {
		x := m
		x.Claims = list
		others = append(others, x)
	}
	put(append(slices.Clone(m.Claims), api.Claim{}))
	for i := range m.Claims {
		put(slices.Delete(slices.Clone(m.Claims), i, i+1))
		list := slices.Clone(m.Claims)
		list[i].Gen++
		put(list)
		list = slices.Clone(m.Claims)
		list[i].Cell++
		put(list)
	}
	if len(m.Claims) > 1 && m.Claims[0] != m.Claims[1] {
		list := slices.Clone(m.Claims)
		slices.Reverse(list)
		put(list)
	}
	return others
}

// P7.2: claims that are nil are as empty ones, of each kind.
func TestSameEmpty(t *testing.T) {
	for kind := -1; kind <= 13; kind++ {
		a, b := api.Message{Kind: kind}, api.Message{Kind: kind, Claims: []api.Claim{}}
		c := api.Message{Kind: kind, Claims: make([]api.Claim, 0, 4)}
		if !wire.Same(a, b) || !wire.Same(b, a) || !wire.Same(b, c) || !wire.Same(a, a) {
			t.Error(kind)
		}
	}
}

// P7.3: what is handed in is only read, what stands behind a list's end too.
func TestHandedIn(t *testing.T) {
	r := rand.New(rand.NewSource(3))
	edged(func(m api.Message, _ bool) {
		room := append(slices.Clone(m.Claims), api.Claim{Cell: 77, Gen: 78}, api.Claim{Cell: 79, Gen: 80})
		before := slices.Clone(room)
		m.Claims = room[:len(m.Claims)]
		p := packetOf(m)
		wire.Check(p)
		wire.CheckMessage(m)
		wire.Bytes(p)
		wire.Size(m)
		wire.Same(m, m)
		if !slices.Equal(room, before) {
			t.Errorf("%v, not %v", room, before)
		}
	})
	for range 300 {
		b, _ := wire.Bytes(drawnPacket(r))
		room := append(slices.Clone(b), 1, 2, 3, 4)
		before := slices.Clone(room)
		for n := range room {
			wire.Read(room[:n])
		}
		if !bytes.Equal(room, before) {
			t.Errorf("%v, not %v", room, before)
		}
	}
}

// P7.3: what is answered shares no memory with what was handed in, nor with another answer.
func TestAnswered(t *testing.T) {
	r := rand.New(rand.NewSource(4))
	for range 300 {
		p := drawnPacket(r)
		before := copied(p)
		b, _ := wire.Bytes(p)
		c, _ := wire.Bytes(p)
		want := chapterBytes(p)
		for i := range b {
			b[i] ^= 255
		}
		if _ = append(b, 1, 2, 3); !bytes.Equal(c, want) || !samePacket(p, before) {
			t.Errorf("%v %v", c, p)
		}
		x, _ := wire.Read(c)
		y, _ := wire.Read(c)
		for i := range x.Msg.Claims {
			x.Msg.Claims[i] = api.Claim{Cell: 5, Gen: 6}
		}
		_ = append(x.Msg.Claims, api.Claim{Cell: 5, Gen: 6})
		if !samePacket(y, before) || !bytes.Equal(c, want) {
			t.Errorf("%v, not %v", y, before)
		}
		clear(c)
		if !samePacket(y, before) {
			t.Errorf("%v, not %v", y, before)
		}
	}
}

// P7.4: Read of Bytes is the packet.
func TestReadOfBytes(t *testing.T) {
	r := rand.New(rand.NewSource(5))
	check := func(p api.Packet) {
		b, e := wire.Bytes(p)
		if e != api.OK || len(b) != wire.Size(p.Msg) || !bytes.Equal(b, chapterBytes(p)) {
			t.Fatalf("Bytes(%+v) = %v %v", p, b, e)
		}
		q, e := wire.Read(b)
		if e != api.OK || !samePacket(p, q) || !wire.Same(p.Msg, q.Msg) {
			t.Fatalf("Read of Bytes(%+v) = %+v %v", p, q, e)
		}
	}
	edged(func(m api.Message, may bool) {
		if may {
			check(packetOf(m))
		}
	})
	for range 20000 {
		check(drawnPacket(r))
	}
}

// P7.4: what Read takes has those bytes: of many bytes with their complements those that are taken.
func TestBytesOfRead(t *testing.T) {
	r := rand.New(rand.NewSource(6))
	taken := 0
	for range 200000 {
		plain := make([]byte, 19+r.Intn(20))
		for i := range plain {
			plain[i] = byte(r.Intn(256) >> r.Intn(9))
		}
		plain[18] = byte(r.Intn(13))
		b := doubled(plain)
		p, e := wire.Read(b)
		if e != api.OK {
			if e != api.ErrWire || !zeroPacket(p) {
				t.Fatalf("Read(%v) = %+v %v", b, p, e)
			}
			continue
		}
		taken++
		c, e := wire.Bytes(p)
		if e != api.OK || !bytes.Equal(b, c) || wire.Check(p) != api.OK {
			t.Fatalf("Read(%v) = %+v, whose bytes are %v %v", b, p, c, e)
		}
	}
	if taken < 1000 {
		t.Error("no more were taken than", taken)
	}
}

// P7.4: bytes of which one is another one: each place, each other byte, of each kind.
func TestReadSpoilt(t *testing.T) {
	all := append(plainMessages(), api.Message{Kind: api.Status, Claims: row(16, 3, 60)})
	for _, m := range all {
		b, _ := wire.Bytes(packetOf(m))
		for i, c := range b {
			for with := 1; with < 256; with++ {
				b[i] = c ^ byte(with)
				if p, e := wire.Read(b); e != api.ErrWire || !zeroPacket(p) {
					t.Fatalf("byte %d as %d: Read = %+v %v", i, b[i], p, e)
				}
			}
			b[i] = c
		}
		if _, e := wire.Read(b); e != api.OK {
			t.Error(e)
		}
	}
}

// P7.4: bytes that are cut, at either end, or have more behind them, or ahead.
func TestReadCut(t *testing.T) {
	refused := func(b []byte) {
		if p, e := wire.Read(b); e != api.ErrWire || !zeroPacket(p) {
			t.Errorf("Read(%v) = %+v %v", b, p, e)
		}
	}
	for _, m := range append(plainMessages(), api.Message{Kind: api.Status, Claims: row(16, 3, 60)}) {
		b, _ := wire.Bytes(packetOf(m))
		for n := range b {
			refused(b[:n])
			refused(b[n+1:])
		}
		for c := range 256 {
			refused(append(slices.Clone(b), byte(c)))
			refused(append(slices.Clone(b), byte(c), byte(255-c)))
			refused(append([]byte{byte(c), byte(255 - c)}, b...))
		}
		refused(slices.Concat(b, b))
		refused(slices.Concat(b, make([]byte, 1000)))
		refused(slices.Concat(b, doubled(make([]byte, 6))))
	}
}
