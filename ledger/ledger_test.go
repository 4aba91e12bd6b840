package ledger_test

import (
	"fmt"
	"math"
	"math/rand"
	"slices"
	"sort"
	"testing"

	"wagonway/api"
	"wagonway/ledger"
)

// These are limits as the chapters write them out.
const (
	maxRobots = 64
	maxCells  = 1024
	maxWait   = 8
	maxPrio   = 15
	greatest  = 1<<32 - 1
)

// wrote is a Write of an entry, as a line; its bytes are written out by division.
func wrote(cell, holder int, gen uint32) string { return writeLine(recordOf(cell, holder, gen)) }

func grant(to, cell int, gen uint32, stamp uint64) string {
	return postLine(api.Post{To: to, Msg: api.Message{Kind: 2, Cell: cell, Gen: gen, Stamp: stamp}})
}

func deny(to, cell int, stamp uint64, other int) string {
	return postLine(api.Post{To: to, Msg: api.Message{Kind: 5, Cell: cell, Stamp: stamp, Other: other}})
}

func inherit(to, cell, prio int) string {
	return postLine(api.Post{To: to, Msg: api.Message{Kind: 8, Cell: cell, Prio: prio}})
}

func recall(to, cell int, gen uint32) string {
	return postLine(api.Post{To: to, Msg: api.Message{Kind: 10, Cell: cell, Gen: gen}})
}

func writeLine(r api.Record) string { return fmt.Sprintf("write %d %d %v", r.Kind, r.N, r.Data) }

func postLine(p api.Post) string { return fmt.Sprintf("post %d %+v", p.To, p.Msg) }

func recordOf(cell, holder int, gen uint32) api.Record {
	r := api.Record{Kind: 3, N: cell}
	switch {
	case holder == -1 && gen == 0:
		return r
	case holder == -1:
		holder = 255
	}
	r.Data = []byte{byte(holder), 0, 0, 0, 0}
	for i := 4; i > 0; i-- {
		r.Data[i] = byte(gen % 256)
		gen /= 256
	}
	return r
}

// lines are what is done, one behind the other: each Post behind as many Writes as it says.
func lines(t *testing.T, o ledger.Out) []string {
	t.Helper()
	if len(o.Behind) != len(o.Posts) {
		t.Fatalf("%d Posts, %d of Behind", len(o.Posts), len(o.Behind))
	}
	var l []string
	at := 0
	for i, p := range o.Posts {
		if o.Behind[i] < at || o.Behind[i] > len(o.Writes) {
			t.Fatalf("Behind = %v of %d Writes", o.Behind, len(o.Writes))
		}
		for ; at < o.Behind[i]; at++ {
			l = append(l, writeLine(o.Writes[at]))
		}
		l = append(l, postLine(p))
	}
	for ; at < len(o.Writes); at++ {
		l = append(l, writeLine(o.Writes[at]))
	}
	return l
}

// does holds what was done against lines that it is to be.
func does(t *testing.T, o ledger.Out, e api.Errno, want ...string) {
	t.Helper()
	if e != api.OK {
		t.Fatal(e)
	}
	if l := lines(t, o); !slices.Equal(l, want) {
		t.Fatalf("done is\n%q, not\n%q", l, want)
	}
}

// fails holds that there is an error, and nothing done.
func fails(t *testing.T, o ledger.Out, e, want api.Errno) {
	t.Helper()
	if e != want || o.Writes != nil || o.Posts != nil || o.Behind != nil {
		t.Errorf("%v %v, not %v", o, e, want)
	}
}

func request(t *testing.T, l *ledger.Ledger, robot, cell int, stamp uint64, prio int, want ...string) {
	t.Helper()
	o, e := l.Request(robot, cell, stamp, prio)
	does(t, o, e, want...)
}

func release(t *testing.T, l *ledger.Ledger, robot, cell int, gen uint32, want ...string) {
	t.Helper()
	o, e := l.Release(robot, cell, gen)
	does(t, o, e, want...)
}

func status(t *testing.T, l *ledger.Ledger, robot int, claims []api.Claim, want ...string) {
	t.Helper()
	o, e := l.Status(robot, claims)
	does(t, o, e, want...)
}

// fresh is a ledger to which all robots told their status, and these records.
func fresh(t *testing.T, home, robots, cells int, records ...api.Record) *ledger.Ledger {
	t.Helper()
	l, e := ledger.Load(home, robots, cells, records)
	if e != api.OK {
		t.Fatal(e)
	}
	var claims []api.Claim
	for cell := range cells {
		_, gen := l.Holder(cell)
		claims = append(claims, api.Claim{Cell: cell, Gen: gen})
	}
	for robot := range robots {
		status(t, l, robot, claims)
	}
	return l
}

func one(robot int, stamp uint64, prio int) api.Waiter {
	return api.Waiter{Robot: robot, Stamp: stamp, Prio: prio}
}

func holds(t *testing.T, l *ledger.Ledger, cell, robot int, gen uint32) {
	t.Helper()
	if r, g := l.Holder(cell); r != robot || g != gen {
		t.Errorf("Holder(%d) = %d %d, not %d %d", cell, r, g, robot, gen)
	}
}

func waits(t *testing.T, l *ledger.Ledger, cell int, want ...api.Waiter) {
	t.Helper()
	if w := l.Waiters(cell); !slices.Equal(w, want) {
		t.Errorf("Waiters(%d) = %v, not %v", cell, w, want)
	}
}

func same(a, b api.Record) bool { return writeLine(a) == writeLine(b) }

func records(t *testing.T, l *ledger.Ledger, want ...api.Record) {
	t.Helper()
	if r := l.Records(); !slices.EqualFunc(r, want, same) {
		t.Errorf("Records = %v, not %v", r, want)
	}
}

// The chapter's examples.
func TestExamples(t *testing.T) {
	l, e := ledger.New(0, 2, 4)
	if e != api.OK {
		t.Fatal(e)
	}
	status(t, l, 1, nil)
	request(t, l, 1, 2, 7, 3, wrote(2, 1, 1), grant(1, 2, 1, 7))
	request(t, l, 0, 2, 9, 5, deny(0, 2, 9, 1), inherit(1, 2, 5), recall(1, 2, 1))
	release(t, l, 1, 2, 1, wrote(2, -1, 1), wrote(2, 0, 2), grant(0, 2, 2, 9))
	o, e := l.Request(1, 1, 7, 3)
	fails(t, o, e, api.ErrArg)
	l.Renewed(1)
	o, e = l.Request(1, 0, 8, 0)
	fails(t, o, e, api.ErrLedger)
}

// The constants are the chapters'.
func TestConstants(t *testing.T) {
	if api.MaxRobots != maxRobots || api.MaxCells != maxCells || api.MaxWait != maxWait || api.MaxPrio != maxPrio {
		t.Error("limits of api are others")
	}
	if api.ErrNil != 1 || api.ErrArg != 2 || api.ErrLedger != 140 || api.RecLedger != 3 {
		t.Error("errors of api are others")
	}
}

// wrongHomes are home, robots and cells that go not together.
func wrongHomes() [][3]int {
	return [][3]int{
		{0, 0, 4}, {0, -1, 4}, {0, 65, 4}, {0, math.MinInt, 4}, {0, math.MaxInt, 4}, {0, 1 << 32, 4},
		{-1, 2, 4}, {2, 2, 4}, {64, 64, 1024}, {1, 1, 4}, {math.MinInt, 2, 4}, {math.MaxInt, 2, 4}, {1 << 32, 2, 4},
		{0, 2, 0}, {0, 2, -1}, {0, 2, 1025}, {0, 2, math.MinInt}, {0, 2, math.MaxInt}, {0, 2, 1 << 32}, {0, 0, 0}, {-1, -1, -1},
	}
}

// P14.1: what may be no ledger, by New nor by Load (whatever the records).
func TestNewWrong(t *testing.T) {
	for _, x := range wrongHomes() {
		if l, e := ledger.New(x[0], x[1], x[2]); l != nil || e != api.ErrArg {
			t.Errorf("New(%v) = %v %v", x, l, e)
		}
		for _, r := range [][]api.Record{nil, {recordOf(0, 0, 1)}, {{Kind: 3, N: -1}}} {
			if l, e := ledger.Load(x[0], x[1], x[2], r); l != nil || e != api.ErrArg {
				t.Errorf("Load(%v) = %v %v", x, l, e)
			}
		}
	}
}

// P14.1, P14.2: all homes of all numbers of robots, with cells at the edges: nobody holds, nobody waits, just the home was told.
func TestNew(t *testing.T) {
	for robots := 1; robots <= maxRobots; robots++ {
		for home := range robots {
			for _, cells := range []int{1, robots, robots + 1, maxCells} {
				if cells > maxCells {
					continue
				}
				m := newModel(home, robots, cells)
				l, e := ledger.New(home, robots, cells)
				if e != api.OK {
					t.Fatal(home, robots, cells, e)
				}
				m.expect(t, l)
				l, e = ledger.Load(home, robots, cells, nil)
				if e != api.OK {
					t.Fatal(home, robots, cells, e)
				}
				m.expect(t, l)
			}
		}
	}
}

// P14.1: records of entries at the edges, in any order; the home alone was told, and nobody waits.
func TestLoad(t *testing.T) {
	m := newModel(3, 5, maxCells)
	var list []api.Record
	for _, x := range []struct {
		cell, holder int
		gen          uint32
	}{
		{3, 0, 1}, {8, -1, 1}, {13, 4, 0}, {18, 2, greatest}, {23, -1, greatest}, {28, 1, 0x01020304}, {33, 3, 256}, {38, 0, 0}, {43, 4, 65536}, {1023, 4, 1 << 31},
	} {
		m.holder[x.cell], m.gen[x.cell] = x.holder, x.gen
		list = append(list, recordOf(x.cell, x.holder, x.gen))
	}
	for seed := range int64(20) {
		rand.New(rand.NewSource(seed)).Shuffle(len(list), func(i, j int) { list[i], list[j] = list[j], list[i] })
		l, e := ledger.Load(3, 5, maxCells, list)
		if e != api.OK {
			t.Fatal(e)
		}
		m.expect(t, l)
	}
	list = nil
	for cell := 3; cell < maxCells; cell += 5 {
		m.holder[cell], m.gen[cell] = cell%6-1, uint32(cell)
		list = append(list, recordOf(cell, m.holder[cell], m.gen[cell]))
	}
	l, e := ledger.Load(3, 5, maxCells, list)
	if e != api.OK {
		t.Fatal(e)
	}
	m.expect(t, l)
}

// P14.1: each holder that there is may hold, and nobody; no other one.
func TestLoadHolders(t *testing.T) {
	for _, robots := range []int{1, 2, 63, maxRobots} {
		for b := range 256 {
			l, e := ledger.Load(0, robots, 1, []api.Record{{Kind: 3, N: 0, Data: []byte{byte(b), 0, 0, 0, 9}}})
			switch {
			case b < robots && e == api.OK:
				holds(t, l, 0, b, 9)
			case b == 255 && e == api.OK:
				holds(t, l, 0, -1, 9)
			case b < robots || b == 255 || l != nil || e != api.ErrLedger:
				t.Errorf("Load of %d robots, holder %d = %v %v", robots, b, l, e)
			}
		}
	}
}

// P14.1: records that are no entries of its cells, that are as at first, or two of one cell; wherever they stand.
func TestLoadWrong(t *testing.T) {
	for _, wrong := range []api.Record{
		{Kind: 3, N: 4}, {Kind: 3, N: 4, Data: []byte{}}, {Kind: 3, N: 4, Data: []byte{255, 0, 0, 0, 0}},
		{Kind: 3, N: 4, Data: []byte{0}}, {Kind: 3, N: 4, Data: []byte{0, 0, 0, 1}}, {Kind: 3, N: 4, Data: []byte{0, 0, 0, 0, 1, 0}}, {Kind: 3, N: 4, Data: make([]byte, 1024)},
		recordOf(4, 3, 1), recordOf(4, 64, 1), recordOf(4, 127, 1), recordOf(4, 128, 1), recordOf(4, 254, 1),
		recordOf(0, 0, 1), recordOf(2, 0, 1), recordOf(3, 0, 1), recordOf(5, 0, 1), recordOf(10, 0, 1), recordOf(13, 0, 1), recordOf(1024, 0, 1),
		recordOf(-1, 0, 1), recordOf(-2, 0, 1), recordOf(math.MinInt, 0, 1), recordOf(math.MaxInt, 0, 1), recordOf(1<<32+1, 0, 1), recordOf(1<<32, 0, 1), recordOf(1<<32+2, 0, 1),
		recordOf(1, 0, 1), recordOf(1, 2, 7), recordOf(7, -1, 5), recordOf(7, 1, 5),
	} {
		right := []api.Record{recordOf(1, 0, 1), recordOf(7, -1, 5)}
		for at := range 3 {
			list := slices.Insert(slices.Clone(right), at, wrong)
			if l, e := ledger.Load(1, 3, 10, list); l != nil || e != api.ErrLedger {
				t.Errorf("Load(%v) = %v %v", list, l, e)
			}
		}
	}
}

// P14.1: records of other kinds make no difference, whatever they are.
func TestLoadOtherKinds(t *testing.T) {
	list := []api.Record{recordOf(4, 2, 5)}
	for _, kind := range []int{0, 1, 2, 4, 255, 256, -3, 259, math.MinInt, math.MaxInt} {
		for _, r := range []api.Record{{N: 4, Data: []byte{1, 0, 0, 0, 9}}, {N: 4}, {N: 1, Data: []byte{0, 0, 0, 0, 1}}, {N: -1}, {N: 3, Data: []byte{99}}} {
			r.Kind = kind
			list = append(list, r)
			list = append([]api.Record{r}, list...)
		}
	}
	l, e := ledger.Load(1, 3, 10, list)
	if e != api.OK {
		t.Fatal(e)
	}
	records(t, l, recordOf(4, 2, 5))
}

// P14.1: each of its cells may be placed once, for any robot, told or not; by generation 1.
func TestPlace(t *testing.T) {
	m := newModel(1, 3, 10)
	l, _ := ledger.New(1, 3, 10)
	for i, cell := range []int{7, 1, 4} {
		r, e := l.Place(cell, i)
		if e != api.OK || !same(r, recordOf(cell, i, 1)) {
			t.Error(cell, r, e)
		}
		m.holder[cell], m.gen[cell] = i, 1
		m.expect(t, l)
	}
	for cell := range 10 {
		for robot := range 3 {
			want := api.ErrArg
			if cell%3 == 1 {
				want = api.ErrLedger
			}
			if r, e := l.Place(cell, robot); e != want || !same(r, api.Record{}) {
				t.Error(cell, robot, r, e)
			}
		}
	}
	m.expect(t, l)
	request(t, l, 1, 1, 7, 2, grant(1, 1, 1, 7))
}

// P14.1: what may not be placed; ErrArg comes ahead of ErrLedger.
func TestPlaceWrong(t *testing.T) {
	l := fresh(t, 1, 3, 10, recordOf(4, 0, 1), recordOf(7, -1, 1))
	for _, x := range []struct {
		cell, robot int
		want        api.Errno
	}{
		{0, 0, 2}, {2, 0, 2}, {3, 0, 2}, {-2, 0, 2}, {-1, 0, 2}, {10, 0, 2}, {13, 0, 2}, {math.MinInt, 0, 2}, {math.MaxInt, 0, 2}, {1<<32 + 1, 0, 2},
		{1, -1, 2}, {1, 3, 2}, {1, 64, 2}, {1, 255, 2}, {1, math.MinInt, 2}, {1, math.MaxInt, 2}, {1, 1 << 32, 2},
		{4, -1, 2}, {4, 3, 2}, {0, -1, 2}, {4, 0, 140}, {4, 1, 140}, {7, 0, 140}, {7, 2, 140},
	} {
		if r, e := l.Place(x.cell, x.robot); e != x.want || !same(r, api.Record{}) {
			t.Error(x, r, e)
		}
	}
	records(t, l, recordOf(4, 0, 1), recordOf(7, -1, 1))
}

// P14.1: an entry that came to be as at first again may be placed, and has no record.
func TestPlaceAgain(t *testing.T) {
	l := fresh(t, 1, 3, 10, recordOf(4, 0, 0))
	release(t, l, 0, 4, 0, wrote(4, -1, 0))
	records(t, l)
	if r, e := l.Place(4, 2); e != api.OK || !same(r, recordOf(4, 2, 1)) {
		t.Error(r, e)
	}
	release(t, l, 2, 4, 1, wrote(4, -1, 1))
	if r, e := l.Place(4, 2); e != api.ErrLedger || !same(r, api.Record{}) {
		t.Error(r, e)
	}
}

// P14.2: of cells that are not its there is nothing; of numbers that are no robots, too.
func TestNotIts(t *testing.T) {
	l := fresh(t, 1, 3, 10, recordOf(1, 0, 4), recordOf(4, 1, 5), recordOf(7, 2, 6))
	for _, cell := range []int{0, 2, 3, 5, 6, 8, 9, 10, 13, 1024, -1, -2, -5, math.MinInt, math.MinInt + 1, math.MaxInt, math.MaxInt - 1, 1 << 32, 1<<32 + 1, 1<<32 + 4} {
		if l.Is(cell) || l.Waiters(cell) != nil {
			t.Error("Is", cell)
		}
		holds(t, l, cell, -1, 0)
	}
	for _, robot := range []int{-1, 3, 64, 65, math.MinInt, math.MaxInt, 1 << 32} {
		if l.Told(robot) {
			t.Error("Told", robot)
		}
	}
}

// P14.3: who is renewed waits nowhere, and was not told, but holds what it held; others stay as they were.
func TestRenewed(t *testing.T) {
	l := fresh(t, 0, 4, 12, recordOf(0, 1, 3), recordOf(4, 2, 5), recordOf(8, 0, 2))
	for robot := range 4 {
		for _, cell := range []int{0, 4, 8} {
			if h, _ := l.Holder(cell); h != robot {
				if _, e := l.Request(robot, cell, uint64(10+robot), robot); e != api.OK {
					t.Fatal(e)
				}
			}
		}
	}
	for _, robot := range []int{-1, 4, 64, math.MinInt, math.MaxInt} {
		l.Renewed(robot)
	}
	waits(t, l, 0, one(3, 13, 3), one(2, 12, 2), one(0, 10, 0))
	l.Renewed(3)
	waits(t, l, 0, one(2, 12, 2), one(0, 10, 0))
	waits(t, l, 4, one(1, 11, 1), one(0, 10, 0))
	waits(t, l, 8, one(2, 12, 2), one(1, 11, 1))
	l.Renewed(0)
	l.Renewed(2)
	waits(t, l, 0)
	waits(t, l, 4, one(1, 11, 1))
	waits(t, l, 8, one(1, 11, 1))
	for robot, want := range []bool{true, true, false, false} {
		if l.Told(robot) != want {
			t.Error("Told", robot)
		}
	}
	records(t, l, recordOf(0, 1, 3), recordOf(4, 2, 5), recordOf(8, 0, 2))
	request(t, l, 0, 0, 20, 4, deny(0, 0, 20, 1), inherit(1, 0, 4), recall(1, 0, 3))
	o, e := l.Request(2, 4, 21, 5)
	fails(t, o, e, api.ErrLedger)
	release(t, l, 2, 4, 5, wrote(4, -1, 5), wrote(4, 1, 6), grant(1, 4, 6, 11))
}

// P14.3: each cell that a robot holds, and does not claim by its generation, is freed, by cells rising, and granted on.
func TestStatus(t *testing.T) {
	held := []api.Record{recordOf(1, 2, 5), recordOf(4, 2, 6), recordOf(7, 0, 7), recordOf(10, 2, 8), recordOf(13, 2, 9), recordOf(16, -1, 4), recordOf(19, 2, 3)}
	l := fresh(t, 1, 3, 22, held...)
	request(t, l, 1, 10, 31, 2, deny(1, 10, 31, 2), inherit(2, 10, 2), recall(2, 10, 8))
	request(t, l, 0, 10, 32, 3, deny(0, 10, 32, 2), inherit(2, 10, 3), recall(2, 10, 8))
	request(t, l, 0, 1, 33, 0, deny(0, 1, 33, 2), inherit(2, 1, 0), recall(2, 1, 5))
	request(t, l, 2, 7, 34, 0, deny(2, 7, 34, 0), inherit(0, 7, 0), recall(0, 7, 7))
	status(t, l, 2, []api.Claim{{Cell: 19, Gen: 3}, {Cell: 10, Gen: 9}, {Cell: 7, Gen: 7}, {Cell: 4, Gen: 6}, {Cell: 13, Gen: 8}, {Cell: 2, Gen: 5}, {Cell: 16, Gen: 4}, {Cell: -1}, {Cell: 4, Gen: 1}},
		wrote(1, -1, 5), wrote(1, 0, 6), grant(0, 1, 6, 33),
		wrote(10, -1, 8), wrote(10, 0, 9), grant(0, 10, 9, 32),
		wrote(13, -1, 9))
	waits(t, l, 7)
	waits(t, l, 10, one(1, 31, 2))
	records(t, l, recordOf(1, 0, 6), recordOf(4, 2, 6), recordOf(7, 0, 7), recordOf(10, 0, 9), recordOf(13, -1, 9), recordOf(16, -1, 4), recordOf(19, 2, 3))
	status(t, l, 2, nil, wrote(4, -1, 6), wrote(19, -1, 3))
	status(t, l, 2, nil)
}

// P14.3: a status that is told lets a robot ask, and again behind Renewed; one that is told twice does, too.
func TestStatusTold(t *testing.T) {
	l, _ := ledger.New(2, 3, 6)
	for robot := range 2 {
		o, e := l.Request(robot, 5, 1, 0)
		fails(t, o, e, api.ErrLedger)
		status(t, l, robot, nil)
		status(t, l, robot, nil)
		if !l.Told(robot) {
			t.Error("Told", robot)
		}
		l.Renewed(robot)
		o, e = l.Request(robot, 5, 1, 0)
		fails(t, o, e, api.ErrLedger)
		status(t, l, robot, nil)
	}
	request(t, l, 2, 5, 1, 0, wrote(5, 2, 1), grant(2, 5, 1, 1))
	l.Renewed(2)
	request(t, l, 2, 2, 2, 0, wrote(2, 2, 1), grant(2, 2, 1, 2))
	status(t, l, 2, []api.Claim{{Cell: 2, Gen: 1}}, wrote(5, -1, 1))
	request(t, l, 0, 5, 3, 0, wrote(5, 0, 2), grant(0, 5, 2, 3))
}

// P14.3: a status frees cells that are held by a robot that was not told, and takes it out of queues.
func TestStatusWaits(t *testing.T) {
	l := fresh(t, 0, 2, 4, recordOf(0, 0, 1), recordOf(2, 1, 1))
	request(t, l, 1, 0, 5, 5, deny(1, 0, 5, 0), inherit(0, 0, 5), recall(0, 0, 1))
	status(t, l, 1, []api.Claim{{Cell: 2, Gen: 1}})
	waits(t, l, 0)
	request(t, l, 0, 2, 6, 0, deny(0, 2, 6, 1), inherit(1, 2, 0), recall(1, 2, 1))
	status(t, l, 0, []api.Claim{{Cell: 0, Gen: 1}})
	waits(t, l, 2)
	l.Renewed(1)
	status(t, l, 1, []api.Claim{{Cell: 2, Gen: 2}}, wrote(2, -1, 1))
}

// P14.3: Status of what is no robot; nothing turns.
func TestStatusWrong(t *testing.T) {
	l := fresh(t, 0, 2, 4, recordOf(0, 0, 1), recordOf(2, 1, 1))
	for _, robot := range []int{-1, 2, 64, 255, math.MinInt, math.MaxInt, 1 << 32} {
		for _, claims := range [][]api.Claim{nil, {{Cell: 0, Gen: 1}}} {
			o, e := l.Status(robot, claims)
			fails(t, o, e, api.ErrArg)
		}
	}
	records(t, l, recordOf(0, 0, 1), recordOf(2, 1, 1))
}

// P14.4: what may not be asked; ErrArg comes ahead of ErrLedger; nothing turns.
func TestRequestWrong(t *testing.T) {
	l, _ := ledger.Load(1, 3, 10, []api.Record{recordOf(4, 2, 5)})
	status(t, l, 0, nil)
	for _, x := range []struct {
		robot, cell, prio int
		want              api.Errno
	}{
		{-1, 1, 0, 2}, {3, 1, 0, 2}, {64, 1, 0, 2}, {255, 1, 0, 2}, {math.MinInt, 1, 0, 2}, {math.MaxInt, 1, 0, 2}, {1 << 32, 1, 0, 2},
		{0, 0, 0, 2}, {0, 2, 0, 2}, {0, 3, 0, 2}, {0, 10, 0, 2}, {0, 13, 0, 2}, {0, -1, 0, 2}, {0, -2, 0, 2}, {0, math.MinInt, 0, 2}, {0, math.MaxInt, 0, 2}, {0, 1<<32 + 1, 0, 2},
		{0, 1, -1, 2}, {0, 1, 16, 2}, {0, 1, math.MinInt, 2}, {0, 1, math.MaxInt, 2}, {0, 1, 1 << 32, 2},
		{2, 0, 0, 2}, {2, 1, 16, 2}, {2, 1, -1, 2}, {2, 1, 0, 140}, {2, 4, 15, 140}, {2, 7, 0, 140},
	} {
		o, e := l.Request(x.robot, x.cell, 7, x.prio)
		if fails(t, o, e, x.want); t.Failed() {
			t.Fatal(x)
		}
	}
	records(t, l, recordOf(4, 2, 5))
	waits(t, l, 4)
	if l.Told(2) {
		t.Error("Told")
	}
}

// P14.4: a cell that nobody holds is granted, by the next generation; by any stamp and priority; one that held it may have it again.
func TestRequestFree(t *testing.T) {
	gen := uint32(0)
	l := fresh(t, 1, 3, 10)
	for _, robot := range []int{0, 0, 1, 2, 1} {
		for _, stamp := range []uint64{0, 1, 1<<32 + 5, math.MaxUint64} {
			for _, prio := range []int{0, 15} {
				gen++
				request(t, l, robot, 7, stamp, prio, wrote(7, robot, gen), grant(robot, 7, gen, stamp))
				waits(t, l, 7)
				records(t, l, recordOf(7, robot, gen))
				release(t, l, robot, 7, gen, wrote(7, -1, gen))
				records(t, l, recordOf(7, -1, gen))
			}
		}
	}
}

// P14.4: who holds a cell gets its Grant again, by what it asks now; nothing turns, whoever waits.
func TestRequestHeld(t *testing.T) {
	l := fresh(t, 1, 3, 10, recordOf(4, 2, 300))
	for _, stamp := range []uint64{0, 9, math.MaxUint64} {
		request(t, l, 2, 4, stamp, 15, grant(2, 4, 300, stamp))
		waits(t, l, 4)
	}
	request(t, l, 0, 4, 8, 1, deny(0, 4, 8, 2), inherit(2, 4, 1), recall(2, 4, 300))
	request(t, l, 2, 4, 10, 0, grant(2, 4, 300, 10))
	waits(t, l, 4, one(0, 8, 1))
	records(t, l, recordOf(4, 2, 300))
}

// P14.4: who asks for a cell that another one holds waits, by layer 12; the holder inherits of the first one.
func TestRequestWaits(t *testing.T) {
	l := fresh(t, 0, 6, 12, recordOf(6, 5, 9))
	request(t, l, 1, 6, 20, 4, deny(1, 6, 20, 5), inherit(5, 6, 4), recall(5, 6, 9))
	request(t, l, 2, 6, 10, 3, deny(2, 6, 10, 5), inherit(5, 6, 4), recall(5, 6, 9))
	request(t, l, 3, 6, 30, 15, deny(3, 6, 30, 5), inherit(5, 6, 15), recall(5, 6, 9))
	request(t, l, 0, 6, 19, 4, deny(0, 6, 19, 5), inherit(5, 6, 15), recall(5, 6, 9))
	request(t, l, 4, 6, 0, 0, deny(4, 6, 0, 5), inherit(5, 6, 15), recall(5, 6, 9))
	waits(t, l, 6, one(3, 30, 15), one(0, 19, 4), one(1, 20, 4), one(2, 10, 3), one(4, 0, 0))
	// Who asks again stands instead just by a greater priority; the Deny bears what was asked now.
	request(t, l, 2, 6, 40, 3, deny(2, 6, 40, 5), inherit(5, 6, 15), recall(5, 6, 9))
	request(t, l, 3, 6, 41, 2, deny(3, 6, 41, 5), inherit(5, 6, 15), recall(5, 6, 9))
	request(t, l, 4, 6, 42, 4, deny(4, 6, 42, 5), inherit(5, 6, 15), recall(5, 6, 9))
	waits(t, l, 6, one(3, 30, 15), one(0, 19, 4), one(1, 20, 4), one(4, 42, 4), one(2, 10, 3))
	records(t, l, recordOf(6, 5, 9))
	release(t, l, 5, 6, 9, wrote(6, -1, 9), wrote(6, 3, 10), grant(3, 6, 10, 30))
	request(t, l, 5, 6, 43, 0, deny(5, 6, 43, 3), inherit(3, 6, 4), recall(3, 6, 10))
	release(t, l, 3, 6, 10, wrote(6, -1, 10), wrote(6, 0, 11), grant(0, 6, 11, 19))
	waits(t, l, 6, one(1, 20, 4), one(4, 42, 4), one(2, 10, 3), one(5, 43, 0))
}

// P14.4: a full queue takes nobody more, whatever the priority; who waits may ask again; when one has left there is room.
func TestRequestFull(t *testing.T) {
	l := fresh(t, 0, 12, 24, recordOf(12, 11, 2))
	var want []api.Waiter
	for robot := range maxWait {
		request(t, l, robot, 12, uint64(robot), 3, deny(robot, 12, uint64(robot), 11), inherit(11, 12, 3), recall(11, 12, 2))
		want = append(want, one(robot, uint64(robot), 3))
	}
	for robot := 8; robot < 11; robot++ {
		for _, prio := range []int{0, 3, 15} {
			request(t, l, robot, 12, 99, prio, deny(robot, 12, 99, -1))
		}
	}
	waits(t, l, 12, want...)
	request(t, l, 7, 12, 50, 2, deny(7, 12, 50, 11), inherit(11, 12, 3), recall(11, 12, 2))
	waits(t, l, 12, want...)
	request(t, l, 7, 12, 51, 9, deny(7, 12, 51, 11), inherit(11, 12, 9), recall(11, 12, 2))
	want = append([]api.Waiter{one(7, 51, 9)}, want[:7]...)
	waits(t, l, 12, want...)
	l.Renewed(0)
	request(t, l, 8, 12, 60, 15, deny(8, 12, 60, 11), inherit(11, 12, 15), recall(11, 12, 2))
	request(t, l, 9, 12, 61, 15, deny(9, 12, 61, -1))
	release(t, l, 11, 12, 2, wrote(12, -1, 2), wrote(12, 8, 3), grant(8, 12, 3, 60))
	request(t, l, 9, 12, 62, 0, deny(9, 12, 62, 8), inherit(8, 12, 9), recall(8, 12, 3))
	request(t, l, 11, 12, 63, 15, deny(11, 12, 63, -1))
}

// P14.4: one robot may wait for several cells, and each cell's queue is by itself.
func TestQueuesApart(t *testing.T) {
	l := fresh(t, 0, 3, 12, recordOf(0, 1, 1), recordOf(3, 1, 1), recordOf(6, 2, 1))
	request(t, l, 0, 0, 5, 1, deny(0, 0, 5, 1), inherit(1, 0, 1), recall(1, 0, 1))
	request(t, l, 0, 3, 6, 2, deny(0, 3, 6, 1), inherit(1, 3, 2), recall(1, 3, 1))
	request(t, l, 0, 6, 7, 3, deny(0, 6, 7, 2), inherit(2, 6, 3), recall(2, 6, 1))
	request(t, l, 2, 3, 8, 0, deny(2, 3, 8, 1), inherit(1, 3, 2), recall(1, 3, 1))
	release(t, l, 1, 3, 1, wrote(3, -1, 1), wrote(3, 0, 2), grant(0, 3, 2, 6))
	waits(t, l, 0, one(0, 5, 1))
	waits(t, l, 3, one(2, 8, 0))
	waits(t, l, 6, one(0, 7, 3))
	waits(t, l, 9)
	request(t, l, 1, 9, 9, 0, wrote(9, 1, 1), grant(1, 9, 1, 9))
}

// P14.5: just who holds a cell, by its generation, gives it back, be it told or not.
func TestRelease(t *testing.T) {
	l := fresh(t, 1, 3, 10, recordOf(4, 2, 5), recordOf(7, -1, 6))
	request(t, l, 0, 4, 8, 1, deny(0, 4, 8, 2), inherit(2, 4, 1), recall(2, 4, 5))
	for _, x := range []struct {
		robot, cell int
		gen         uint32
	}{
		{2, 4, 4}, {2, 4, 6}, {2, 4, 0}, {2, 4, greatest}, {2, 4, 5 + 1<<8}, {2, 4, 5 + 1<<31}, {0, 4, 5}, {1, 4, 5},
		{0, 7, 6}, {1, 7, 6}, {2, 7, 6}, {2, 7, 5}, {0, 1, 0}, {1, 1, 0}, {2, 1, 0}, {0, 1, 1},
	} {
		release(t, l, x.robot, x.cell, x.gen)
	}
	waits(t, l, 4, one(0, 8, 1))
	records(t, l, recordOf(4, 2, 5), recordOf(7, -1, 6))
	l.Renewed(2)
	release(t, l, 2, 4, 5, wrote(4, -1, 5), wrote(4, 0, 6), grant(0, 4, 6, 8))
	release(t, l, 2, 4, 5)
	waits(t, l, 4)
	release(t, l, 0, 4, 6, wrote(4, -1, 6))
	release(t, l, 0, 4, 6)
	records(t, l, recordOf(4, -1, 6), recordOf(7, -1, 6))
}

// P14.5: what may not be given back; nothing turns.
func TestReleaseWrong(t *testing.T) {
	l := fresh(t, 1, 3, 10, recordOf(4, 2, 5))
	for _, x := range [][2]int{
		{-1, 4}, {3, 4}, {64, 4}, {255, 4}, {math.MinInt, 4}, {math.MaxInt, 4}, {1<<32 + 2, 4}, {-1, 7},
		{2, 0}, {2, 2}, {2, 3}, {2, 10}, {2, 13}, {2, -1}, {2, -2}, {2, math.MinInt}, {2, math.MaxInt}, {2, 1<<32 + 4}, {-1, 0},
	} {
		for _, gen := range []uint32{0, 5} {
			o, e := l.Release(x[0], x[1], gen)
			fails(t, o, e, api.ErrArg)
		}
	}
	records(t, l, recordOf(4, 2, 5))
}

// Words: by the greatest generation a cell is granted no more: who asks for it, and who waits for it, in order, is denied.
func TestGreatestGeneration(t *testing.T) {
	l := fresh(t, 0, 4, 12, recordOf(0, -1, greatest), recordOf(4, -1, greatest-1), recordOf(8, 3, greatest))
	request(t, l, 1, 0, 6, 15, deny(1, 0, 6, -1))
	request(t, l, 0, 0, 7, 0, deny(0, 0, 7, -1))
	waits(t, l, 0)
	request(t, l, 2, 4, 8, 0, wrote(4, 2, greatest), grant(2, 4, greatest, 8))
	request(t, l, 2, 4, 9, 0, grant(2, 4, greatest, 9))
	request(t, l, 1, 4, 10, 0, deny(1, 4, 10, 2), inherit(2, 4, 0), recall(2, 4, greatest))
	request(t, l, 3, 4, 11, 6, deny(3, 4, 11, 2), inherit(2, 4, 6), recall(2, 4, greatest))
	request(t, l, 0, 4, 5, 0, deny(0, 4, 5, 2), inherit(2, 4, 6), recall(2, 4, greatest))
	release(t, l, 2, 4, greatest, wrote(4, -1, greatest), deny(3, 4, 11, -1), deny(0, 4, 5, -1), deny(1, 4, 10, -1))
	waits(t, l, 4)
	request(t, l, 1, 8, 12, 1, deny(1, 8, 12, 3), inherit(3, 8, 1), recall(3, 8, greatest))
	status(t, l, 3, []api.Claim{{Cell: 8, Gen: greatest - 1}, {Cell: 8, Gen: 0}}, wrote(8, -1, greatest), deny(1, 8, 12, -1))
	waits(t, l, 8)
	records(t, l, recordOf(0, -1, greatest), recordOf(4, -1, greatest), recordOf(8, -1, greatest))
	if _, e := l.Place(8, 1); e != api.ErrLedger {
		t.Error(e)
	}
}

// Words: an entry that was held by generation 0 has no record when it is freed; it is granted on by 1.
func TestGenerationNone(t *testing.T) {
	l := fresh(t, 0, 2, 6, recordOf(0, 1, 0), recordOf(2, 0, 0), recordOf(4, 1, 0))
	request(t, l, 0, 0, 4, 0, deny(0, 0, 4, 1), inherit(1, 0, 0), recall(1, 0, 0))
	status(t, l, 1, []api.Claim{{Cell: 4, Gen: 0}}, wrote(0, -1, 0), wrote(0, 0, 1), grant(0, 0, 1, 4))
	release(t, l, 0, 2, 0, wrote(2, -1, 0))
	records(t, l, recordOf(0, 0, 1), recordOf(4, 1, 0))
	holds(t, l, 2, -1, 0)
}

// P14.6: what is handed in stays as it was, and may be written to later.
func TestHandedIn(t *testing.T) {
	list := []api.Record{recordOf(4, 2, 5), recordOf(1, 0, 3)}
	l, e := ledger.Load(1, 3, 10, list)
	if e != api.OK || len(list) != 2 || !same(list[0], recordOf(4, 2, 5)) || !same(list[1], recordOf(1, 0, 3)) {
		t.Fatal(list, e)
	}
	for i := range list {
		clear(list[i].Data)
	}
	clear(list)
	records(t, l, recordOf(1, 0, 3), recordOf(4, 2, 5))
	claims := []api.Claim{{Cell: 4, Gen: 5}, {Cell: 1, Gen: 1}}
	held := slices.Clone(claims)
	status(t, l, 2, claims)
	if !slices.Equal(claims, held) {
		t.Error(claims)
	}
	clear(claims)
	records(t, l, recordOf(1, 0, 3), recordOf(4, 2, 5))
}

// P14.6: what is answered may be written to; nothing turns by it, neither the ledger nor what else was answered.
func TestNewMemory(t *testing.T) {
	l := fresh(t, 1, 3, 10, recordOf(4, 2, 5), recordOf(1, 0, 3))
	o, _ := l.Request(1, 4, 8, 2)
	again, _ := l.Request(0, 4, 9, 1)
	clear(o.Posts)
	clear(o.Behind)
	does(t, again, api.OK, deny(0, 4, 9, 2), inherit(2, 4, 2), recall(2, 4, 5))
	clear(l.Waiters(4))
	waits(t, l, 4, one(1, 8, 2), one(0, 9, 1))
	first := l.Records()
	for i := range first {
		clear(first[i].Data)
		first[i].Data = append(first[i].Data, 1)
	}
	clear(first)
	records(t, l, recordOf(1, 0, 3), recordOf(4, 2, 5))
	o, _ = l.Release(2, 4, 5)
	told := l.Records()
	for i := range o.Writes {
		clear(o.Writes[i].Data)
	}
	clear(o.Writes)
	want := []api.Record{recordOf(1, 0, 3), recordOf(4, 1, 6)}
	if !slices.EqualFunc(told, want, same) {
		t.Error(told)
	}
	r, _ := l.Place(7, 2)
	clear(r.Data)
	records(t, l, append(want, recordOf(7, 2, 1))...)
}

// P14.6: two ledgers are each by itself.
func TestApart(t *testing.T) {
	a := fresh(t, 1, 3, 10)
	b, _ := ledger.Load(1, 3, 10, a.Records())
	request(t, a, 0, 4, 8, 2, wrote(4, 0, 1), grant(0, 4, 1, 8))
	request(t, a, 2, 4, 9, 2, deny(2, 4, 9, 0), inherit(0, 4, 2), recall(0, 4, 1))
	records(t, b)
	waits(t, b, 4)
	if b.Told(0) || b.Told(2) {
		t.Error("Told")
	}
}

// Types: one that neither New nor Load made answers ErrNil, ahead of all other errors, or nothing.
func TestNobodyMade(t *testing.T) {
	var none *ledger.Ledger
	for _, l := range []*ledger.Ledger{none, {}, none, new(ledger.Ledger)} {
		for range 2 {
			for _, n := range []int{-1, 0, 1, 64, 1024, math.MinInt, math.MaxInt} {
				for _, robot := range []int{-1, 0, 1, 64, math.MaxInt} {
					if r, e := l.Place(n, robot); e != api.ErrNil || !same(r, api.Record{}) {
						t.Error(r, e)
					}
					o, e := l.Request(robot, n, 1, n)
					fails(t, o, e, api.ErrNil)
					o, e = l.Release(robot, n, 0)
					fails(t, o, e, api.ErrNil)
				}
				o, e := l.Status(n, []api.Claim{{}})
				fails(t, o, e, api.ErrNil)
				l.Renewed(n)
				holds(t, l, n, -1, 0)
				if l.Is(n) || l.Told(n) || l.Waiters(n) != nil || l.Records() != nil {
					t.Error(n)
				}
			}
		}
	}
}

// model is what a ledger is to be, by the chapter's words: its lists are by all cells, and by robots.
type model struct {
	home, robots, cells int
	holder              []int
	gen                 []uint32
	queue               [][]api.Waiter
	told                []bool
	done                []string
}

func newModel(home, robots, cells int) *model {
	m := &model{home: home, robots: robots, cells: cells, holder: make([]int, cells), gen: make([]uint32, cells), queue: make([][]api.Waiter, cells), told: make([]bool, robots)}
	for cell := range m.holder {
		m.holder[cell] = -1
	}
	m.told[home] = true
	return m
}

func (m *model) is(cell int) bool { return cell >= 0 && cell < m.cells && cell%m.robots == m.home }

func (m *model) has(robot int) bool { return robot >= 0 && robot < m.robots }

func (m *model) records() []api.Record {
	var l []api.Record
	for cell := range m.cells {
		if m.holder[cell] != -1 || m.gen[cell] != 0 {
			l = append(l, recordOf(cell, m.holder[cell], m.gen[cell]))
		}
	}
	return l
}

// expect holds all that a ledger tells against the model.
func (m *model) expect(t *testing.T, l *ledger.Ledger) {
	t.Helper()
	for cell := -m.robots - 1; cell <= m.cells+m.robots; cell++ {
		holder, gen, queue := -1, uint32(0), []api.Waiter(nil)
		if m.is(cell) {
			holder, gen, queue = m.holder[cell], m.gen[cell], m.queue[cell]
		}
		if l.Is(cell) != m.is(cell) {
			t.Fatalf("Is(%d) = %v", cell, l.Is(cell))
		}
		if h, g := l.Holder(cell); h != holder || g != gen {
			t.Fatalf("Holder(%d) = %d %d, not %d %d", cell, h, g, holder, gen)
		}
		if w := l.Waiters(cell); !slices.Equal(w, queue) {
			t.Fatalf("Waiters(%d) = %v, not %v", cell, w, queue)
		}
	}
	for robot := -1; robot <= m.robots+1; robot++ {
		if l.Told(robot) != (m.has(robot) && m.told[robot]) {
			t.Fatalf("Told(%d) = %v", robot, l.Told(robot))
		}
	}
	if r := l.Records(); !slices.EqualFunc(r, m.records(), same) {
		t.Fatalf("Records = %v, not %v", r, m.records())
	}
	waited := 0
	for _, q := range m.queue {
		waited += min(len(q), 1)
	}
	if entries, queues := l.Kept(); entries != len(m.records()) || queues != waited {
		t.Fatalf("%d entries and %d queues are kept, not %d and %d", entries, queues, len(m.records()), waited)
	}
}

func (m *model) renewed(robot int) {
	if m.has(robot) {
		m.cut(robot)
		m.told[robot] = robot == m.home
	}
}

func (m *model) cut(robot int) {
	for cell := range m.queue {
		m.queue[cell] = slices.DeleteFunc(m.queue[cell], func(w api.Waiter) bool { return w.Robot == robot })
	}
}

func (m *model) free(cell int) {
	m.holder[cell] = -1
	m.done = append(m.done, wrote(cell, -1, m.gen[cell]))
	for len(m.queue[cell]) > 0 && m.holder[cell] == -1 {
		w := m.queue[cell][0]
		m.queue[cell] = m.queue[cell][1:]
		m.grant(cell, w.Robot, w.Stamp)
	}
}

func (m *model) grant(cell, robot int, stamp uint64) {
	if m.gen[cell] == greatest {
		m.done = append(m.done, deny(robot, cell, stamp, -1))
		return
	}
	m.holder[cell] = robot
	m.gen[cell]++
	m.done = append(m.done, wrote(cell, robot, m.gen[cell]), grant(robot, cell, m.gen[cell], stamp))
}

// wait is layer 12's Put.
func (m *model) wait(cell int, w api.Waiter) bool {
	q := m.queue[cell]
	at := slices.IndexFunc(q, func(x api.Waiter) bool { return x.Robot == w.Robot })
	switch {
	case at < 0 && len(q) == maxWait:
		return false
	case at < 0:
		q = append(q, w)
	case w.Prio > q[at].Prio:
		q[at] = w
	}
	sort.Slice(q, func(i, j int) bool {
		a, b := q[i], q[j]
		return a.Prio > b.Prio || a.Prio == b.Prio && (a.Stamp < b.Stamp || a.Stamp == b.Stamp && a.Robot < b.Robot)
	})
	m.queue[cell] = q
	return true
}

func (m *model) status(robot int, claims []api.Claim) api.Errno {
	if !m.has(robot) {
		return api.ErrArg
	}
	m.cut(robot)
	for cell := range m.cells {
		claimed := false
		for _, c := range claims {
			claimed = claimed || c.Cell == cell && c.Gen == m.gen[cell]
		}
		if m.holder[cell] == robot && !claimed {
			m.free(cell)
		}
	}
	m.told[robot] = true
	return api.OK
}

func (m *model) request(robot, cell int, stamp uint64, prio int) api.Errno {
	switch {
	case !m.has(robot) || !m.is(cell) || prio < 0 || prio > maxPrio:
		return api.ErrArg
	case !m.told[robot]:
		return api.ErrLedger
	case m.holder[cell] == robot:
		m.done = append(m.done, grant(robot, cell, m.gen[cell], stamp))
	case m.holder[cell] == -1:
		m.grant(cell, robot, stamp)
	case m.wait(cell, one(robot, stamp, prio)):
		h := m.holder[cell]
		m.done = append(m.done, deny(robot, cell, stamp, h), inherit(h, cell, m.queue[cell][0].Prio), recall(h, cell, m.gen[cell]))
	default:
		m.done = append(m.done, deny(robot, cell, stamp, -1))
	}
	return api.OK
}

func (m *model) release(robot, cell int, gen uint32) api.Errno {
	if !m.has(robot) || !m.is(cell) {
		return api.ErrArg
	}
	if m.holder[cell] == robot && m.gen[cell] == gen {
		m.free(cell)
	}
	return api.OK
}

// drawn is a ledger with a model of it, of drawn size, whose entries are often near the greatest generation.
func drawn(t *testing.T, r *rand.Rand) (*ledger.Ledger, *model) {
	t.Helper()
	robots := 1 + r.Intn(12)
	m := newModel(r.Intn(robots), robots, 1+r.Intn(4*robots))
	for cell := range m.cells {
		if m.is(cell) && r.Intn(2) == 0 {
			m.holder[cell] = r.Intn(robots+1) - 1
			m.gen[cell] = []uint32{0, 1, 255, greatest - 3, greatest - 1, greatest}[r.Intn(6)]
		}
	}
	l, e := ledger.Load(m.home, m.robots, m.cells, m.records())
	if e != api.OK {
		t.Fatal(e)
	}
	return l, m
}

// claims are some of a robot's, often one short, or by another generation.
func (m *model) claims(r *rand.Rand, robot int) []api.Claim {
	var l []api.Claim
	for cell := range m.cells {
		if m.holder[cell] == robot && r.Intn(3) > 0 || r.Intn(9) == 0 {
			l = append(l, api.Claim{Cell: cell, Gen: m.gen[cell] + uint32(r.Intn(8)/7)})
		}
	}
	r.Shuffle(len(l), func(i, j int) { l[i], l[j] = l[j], l[i] })
	return l
}

// act does something drawn to both, and answers what came of it.
func act(r *rand.Rand, l *ledger.Ledger, m *model) (o ledger.Out, e, want api.Errno) {
	robot, cell := r.Intn(m.robots+2)-1, r.Intn(m.cells+2)-1
	if r.Intn(4) > 0 { // more often a cell of the home
		cell = m.home + m.robots*r.Intn(m.cells/m.robots+1)
	}
	switch r.Intn(10) {
	case 0:
		l.Renewed(robot)
		m.renewed(robot)
	case 1:
		claims := m.claims(r, robot)
		o, e = l.Status(robot, claims)
		want = m.status(robot, claims)
	case 2, 3:
		gen := uint32(r.Intn(4))
		if m.is(cell) && r.Intn(4) > 0 {
			robot, gen = m.holder[cell], m.gen[cell]
		}
		o, e = l.Release(robot, cell, gen)
		want = m.release(robot, cell, gen)
	default:
		stamp, prio := r.Uint64()>>(r.Intn(4)*20), r.Intn(maxPrio+3)-1
		o, e = l.Request(robot, cell, stamp, prio)
		want = m.request(robot, cell, stamp, prio)
	}
	return o, e, want
}

// follow holds the Writes of an Out against P14.7, one by one, and writes them.
func follow(t *testing.T, writes []api.Record, holder []int, gen []uint32) {
	t.Helper()
	for _, w := range writes {
		h, g := -1, uint32(0)
		if len(w.Data) == 5 {
			h = int(w.Data[0])
			g = uint32(w.Data[1])*1<<24 + uint32(w.Data[2])*1<<16 + uint32(w.Data[3])*1<<8 + uint32(w.Data[4])
		}
		if h == 255 {
			h = -1
		}
		freed := holder[w.N] != -1 && h == -1 && g == gen[w.N]
		granted := holder[w.N] == -1 && h != -1 && g > gen[w.N]
		if !freed && !granted {
			t.Fatalf("%d: %d by %d behind %d by %d", w.N, h, g, holder[w.N], gen[w.N])
		}
		holder[w.N], gen[w.N] = h, g
	}
}

// P14.7: drawn runs against the model; generations and holders turn as they may; who waits does not hold; Writes make the entries.
func TestModel(t *testing.T) {
	for seed := range int64(150) {
		r := rand.New(rand.NewSource(seed))
		l, m := drawn(t, r)
		m.expect(t, l)
		holder, gen := slices.Clone(m.holder), slices.Clone(m.gen)
		for range 150 {
			m.done = nil
			o, e, want := act(r, l, m)
			if e != want {
				t.Fatal(e, want)
			}
			does(t, o, api.OK, m.done...)
			m.expect(t, l)
			follow(t, o.Writes, holder, gen)
			if !slices.Equal(holder, m.holder) || !slices.Equal(gen, m.gen) {
				t.Fatal("Writes make other entries")
			}
			for cell := range m.cells {
				w := l.Waiters(cell)
				if len(w) > maxWait || slices.ContainsFunc(w, func(w api.Waiter) bool { return w.Robot == holder[cell] }) {
					t.Fatal(cell, w)
				}
			}
		}
	}
}

// P14.7: what Load makes of Records has the same entries, at any time of a drawn run; nobody waits, and nobody was told.
func TestRecordsLoad(t *testing.T) {
	for seed := range int64(100) {
		r := rand.New(rand.NewSource(seed))
		l, m := drawn(t, r)
		for range 60 {
			act(r, l, m)
			if r.Intn(5) > 0 {
				continue
			}
			x, e := ledger.Load(m.home, m.robots, m.cells, l.Records())
			if e != api.OK {
				t.Fatal(e)
			}
			bare := newModel(m.home, m.robots, m.cells)
			bare.holder, bare.gen = m.holder, m.gen
			bare.expect(t, x)
			if r.Intn(3) == 0 {
				bare.holder, bare.gen = slices.Clone(m.holder), slices.Clone(m.gen)
				l, m = x, bare
			}
		}
	}
}
