package stamp_test

import (
	"math"
	"math/rand"
	"slices"
	"sort"
	"testing"

	"wagonway/api"
	"wagonway/stamp"
)

// These are limits as the chapter writes them out.
const (
	maxWait   = 8
	maxRobots = 64
	maxPrio   = 15
	greatest  = 1<<32 - 1
)

// one is a waiter, as the chapter's examples write it: robot, stamp, priority.
func one(robot int, stamp uint64, prio int) api.Waiter {
	return api.Waiter{Robot: robot, Stamp: stamp, Prio: prio}
}

func next(t *testing.T, c *stamp.Clock, want uint64) {
	t.Helper()
	if s, e := c.Next(); s != want || e != api.OK {
		t.Errorf("Next = %d %v, not %d", s, e, want)
	}
}

func put(t *testing.T, q *stamp.Queue, want bool, l ...api.Waiter) {
	t.Helper()
	for _, w := range l {
		if is, e := q.Put(w); is != want || e != api.OK {
			t.Errorf("Put(%v) = %v %v, not %v", w, is, e, want)
		}
	}
}

func queueOf(t *testing.T, l ...api.Waiter) *stamp.Queue {
	t.Helper()
	q := &stamp.Queue{}
	put(t, q, true, l...)
	return q
}

func robots(l []api.Waiter) []int {
	var r []int
	for _, w := range l {
		r = append(r, w.Robot)
	}
	return r
}

// expect holds all that a queue tells against the waiters that it is to have, the first one first.
func expect(t *testing.T, q *stamp.Queue, want ...api.Waiter) {
	t.Helper()
	if l := q.All(); !slices.Equal(l, want) {
		t.Fatalf("All = %v, not %v", l, want)
	}
	if q.Len() != len(want) {
		t.Fatalf("Len = %d, not %d", q.Len(), len(want))
	}
	var first api.Waiter
	if len(want) > 0 {
		first = want[0]
	}
	if w, is := q.First(); w != first || is != (len(want) > 0) {
		t.Fatalf("First = %v %v, not %v", w, is, first)
	}
	for _, robot := range append(robots(want), -1, 0, 1, 2, 3, 62, 63, 64, math.MinInt, math.MaxInt) {
		at := slices.Index(robots(want), robot)
		var own api.Waiter
		if at >= 0 {
			own = want[at]
		}
		if w, is := q.Find(robot); w != own || is != (at >= 0) {
			t.Fatalf("Find(%d) = %v %v, not %v", robot, w, is, own)
		}
	}
}

// eight are as many waiters as there may be, the first one first.
func eight() []api.Waiter {
	return []api.Waiter{
		one(63, 4, 15), one(5, 9, 9), one(1, 2, 7), one(0, 3, 7), one(2, 3, 7), one(3, 3, 7), one(9, 0, 1), one(8, math.MaxUint64, 0),
	}
}

// The chapter's examples.
func TestExamples(t *testing.T) {
	c := stamp.NewClock(2)
	next(t, c, 1<<33+1)
	c.Hear(9)
	next(t, c, 1<<33+10)
	q := queueOf(t, one(3, 7, 0), one(1, 9, 0), one(2, 9, 5))
	expect(t, q, one(2, 9, 5), one(3, 7, 0), one(1, 9, 0))
	put(t, q, true, one(1, 4, 6))
	if w, is := q.First(); w != one(1, 4, 6) || !is {
		t.Error(w, is)
	}
	if !q.Raise(3, 6) {
		t.Error("Raise(3, 6) = false")
	}
	expect(t, q, one(1, 4, 6), one(3, 7, 6), one(2, 9, 5))
}

// The limits are the chapter's.
func TestConstants(t *testing.T) {
	if api.MaxWait != maxWait || api.MaxRobots != maxRobots || api.MaxPrio != maxPrio || api.ErrStamp != 120 || api.ErrNil != 1 || api.ErrArg != 2 {
		t.Error("constants of api are others")
	}
}

// P12.1: a clock begins at count 0, and counts one by one above its epoch; any epoch may be.
func TestNext(t *testing.T) {
	for _, epoch := range []uint32{0, 1, 2, 1 << 31, greatest - 1, greatest} {
		c := stamp.NewClock(epoch)
		for count := range uint64(300) {
			next(t, c, uint64(epoch)<<32+count+1)
		}
	}
}

// P12.1: what is heard counts by its count alone, and only if that is more.
func TestHear(t *testing.T) {
	for _, epoch := range []uint32{0, 3, greatest} {
		above := uint64(epoch) << 32
		c := stamp.NewClock(epoch)
		for _, x := range []struct{ heard, count uint64 }{
			{0, 1},
			{1, 2},
			{2, 3},
			{10, 11},
			{10, 12},
			{5, 13},
			{12, 14},
			{1<<32 + 20, 21},
			{2<<32 + 20, 22},
			{9 << 32, 23},
			{math.MaxUint64 - greatest, 24},
			{math.MaxUint64 - greatest + 40, 41},
			{1<<40 - 1<<32 + 5, 42},
			{7<<32 + 1<<31, 1<<31 + 1},
			{8<<32 - 1<<31 - 7, 1<<31 + 2},
			{1<<32 - 3, 1<<32 - 2},
		} {
			c.Hear(x.heard)
			next(t, c, above+x.count)
		}
	}
}

// P12.1: who heard much hears less behind it as nothing, though no stamp was asked for between.
func TestHearGreatest(t *testing.T) {
	c := stamp.NewClock(1)
	for _, heard := range []uint64{7, 1<<32 | 30, 5<<32 | 29, 9 << 32, 0} {
		c.Hear(heard)
	}
	next(t, c, 1<<32+31)
}

// P12.1: behind the count 2^32 - 1 there is no stamp, and never is again.
func TestNextGreatest(t *testing.T) {
	for _, epoch := range []uint32{0, 7, greatest} {
		c := stamp.NewClock(epoch)
		c.Hear(greatest - 1)
		next(t, c, uint64(epoch)<<32+greatest)
		for _, heard := range []uint64{0, 1, greatest, math.MaxUint64, 1 << 32} {
			if s, e := c.Next(); s != 0 || e != api.ErrStamp {
				t.Error(epoch, s, e)
			}
			c.Hear(heard)
		}
		c = stamp.NewClock(epoch)
		c.Hear(6<<32 | greatest)
		if s, e := c.Next(); s != 0 || e != api.ErrStamp {
			t.Error(epoch, s, e)
		}
	}
}

// P12.1: by the priority (the greater first), then the stamp (the lesser first), then the robot.
func TestAhead(t *testing.T) {
	for _, x := range []struct{ first, second api.Waiter }{
		{one(9, 9, 5), one(1, 1, 4)},
		{one(0, 0, 15), one(0, 0, 14)},
		{one(9, 3, 5), one(1, 4, 5)},
		{one(9, 1<<33, 5), one(1, 1<<33+1, 5)},
		{one(9, 0, 5), one(1, math.MaxUint64, 5)},
		{one(9, math.MaxInt64, 5), one(1, math.MaxInt64+1, 5)},
		{one(1, 4, 5), one(9, 4, 5)},
		{one(0, 0, 0), one(63, 0, 0)},
	} {
		if !stamp.Ahead(x.first, x.second) || stamp.Ahead(x.second, x.first) {
			t.Error(x, stamp.Ahead(x.first, x.second), stamp.Ahead(x.second, x.first))
		}
	}
	for _, w := range append(eight(), api.Waiter{}) {
		if stamp.Ahead(w, w) {
			t.Error(w, "stands ahead of itself")
		}
	}
	for i, a := range eight() {
		for j, b := range eight() {
			if stamp.Ahead(a, b) != (i < j) {
				t.Error(a, b, stamp.Ahead(a, b))
			}
		}
	}
}

// P12.2: who comes stands where it belongs; robots and priorities may be as great as the limits say.
func TestPut(t *testing.T) {
	q := queueOf(t)
	expect(t, q)
	put(t, q, true, one(63, 5, 0))
	expect(t, q, one(63, 5, 0))
	put(t, q, true, one(0, 5, 15))
	expect(t, q, one(0, 5, 15), one(63, 5, 0))
	put(t, q, true, one(7, math.MaxUint64, 0))
	expect(t, q, one(0, 5, 15), one(63, 5, 0), one(7, math.MaxUint64, 0))
	put(t, q, true, one(8, 0, 0), one(9, 5, 0))
	expect(t, q, one(0, 5, 15), one(8, 0, 0), one(9, 5, 0), one(63, 5, 0), one(7, math.MaxUint64, 0))
}

// P12.2: a waiter that may not be is ErrArg, and turns nothing, be there room or not.
func TestPutWrong(t *testing.T) {
	for _, l := range [][]api.Waiter{nil, eight()[:3], eight()} {
		q := queueOf(t, l...)
		for _, w := range []api.Waiter{
			one(-1, 1, 1), one(64, 1, 1), one(math.MinInt, 1, 1), one(math.MaxInt, 1, 1),
			one(1, 1, -1), one(1, 1, 16), one(1, 1, math.MinInt), one(1, 1, math.MaxInt), one(4, 1, -1), one(4, 1, 16), one(-1, 0, 16),
		} {
			if is, e := q.Put(w); is || e != api.ErrArg {
				t.Error(w, is, e)
			}
			expect(t, q, l...)
		}
	}
}

// P12.2: whose robot is there stands instead of that one, if its priority is greater, whatever the stamps.
func TestPutInstead(t *testing.T) {
	for _, x := range []struct {
		w    api.Waiter
		want []api.Waiter
	}{
		{one(2, 5, 5), []api.Waiter{one(2, 5, 5), one(1, 3, 4), one(3, 7, 1)}},
		{one(2, 9, 5), []api.Waiter{one(2, 9, 5), one(1, 3, 4), one(3, 7, 1)}},
		{one(2, 0, 5), []api.Waiter{one(2, 0, 5), one(1, 3, 4), one(3, 7, 1)}},
		{one(2, 4, 4), []api.Waiter{one(1, 3, 4), one(2, 4, 4), one(3, 7, 1)}},
		{one(2, 2, 4), []api.Waiter{one(2, 2, 4), one(1, 3, 4), one(3, 7, 1)}},
		{one(2, 99, 3), []api.Waiter{one(1, 3, 4), one(2, 99, 3), one(3, 7, 1)}},
		{one(2, 0, 2), nil},
		{one(2, 99, 2), nil},
		{one(2, 0, 1), nil},
		{one(2, 5, 0), nil},
		{one(1, 0, 4), nil},
		{one(3, 7, 1), nil},
		{one(3, 1, 15), []api.Waiter{one(3, 1, 15), one(1, 3, 4), one(2, 5, 2)}},
	} {
		q := queueOf(t, one(1, 3, 4), one(2, 5, 2), one(3, 7, 1))
		put(t, q, true, x.w)
		if x.want == nil {
			x.want = []api.Waiter{one(1, 3, 4), one(2, 5, 2), one(3, 7, 1)}
		}
		expect(t, q, x.want...)
	}
}

// P12.2: a full queue takes no other robot, however great its priority; but who is there still turns.
func TestPutFull(t *testing.T) {
	q := queueOf(t, eight()...)
	for _, w := range []api.Waiter{one(4, 0, 15), one(4, 0, 0), one(62, 5, 7)} {
		put(t, q, false, w)
		expect(t, q, eight()...)
	}
	put(t, q, true, one(8, 5, 0), one(63, 1, 15))
	expect(t, q, eight()...)
	put(t, q, true, one(8, 1, 15))
	want := slices.Concat([]api.Waiter{one(8, 1, 15)}, eight()[:7])
	expect(t, q, want...)
	put(t, q, false, one(4, 0, 15))
	q.Cut(1)
	put(t, q, true, one(4, 0, 15))
	put(t, q, false, one(1, 0, 15))
	want = slices.Concat([]api.Waiter{one(4, 0, 15)}, want[:3], want[4:])
	expect(t, q, want...)
}

// P12.2: a greater priority is the robot's then, by its own stamp; a lesser one, the same, or one that may not be turns nothing.
func TestRaise(t *testing.T) {
	for _, x := range []struct {
		robot, prio int
		want        []api.Waiter
	}{
		{3, 2, []api.Waiter{one(1, 3, 4), one(2, 5, 2), one(3, 7, 2)}},
		{3, 3, []api.Waiter{one(1, 3, 4), one(3, 7, 3), one(2, 5, 2)}},
		{3, 15, []api.Waiter{one(3, 7, 15), one(1, 3, 4), one(2, 5, 2)}},
		{2, 3, []api.Waiter{one(1, 3, 4), one(2, 5, 3), one(3, 7, 1)}},
		{1, 5, []api.Waiter{one(1, 3, 5), one(2, 5, 2), one(3, 7, 1)}},
		{3, 1, nil}, {3, 0, nil}, {3, -1, nil}, {3, 16, nil}, {3, math.MaxInt, nil}, {3, math.MinInt, nil},
		{1, 4, nil}, {1, 3, nil}, {0, 9, nil}, {4, 9, nil}, {-1, 9, nil}, {64, 9, nil}, {math.MaxInt, 9, nil},
	} {
		q := queueOf(t, one(1, 3, 4), one(2, 5, 2), one(3, 7, 1))
		if is := q.Raise(x.robot, x.prio); is != (x.want != nil) {
			t.Error(x, is)
		}
		if x.want == nil {
			x.want = []api.Waiter{one(1, 3, 4), one(2, 5, 2), one(3, 7, 1)}
		}
		expect(t, q, x.want...)
	}
}

// P12.2: each one of a full queue may be raised, to the front of it.
func TestRaiseFull(t *testing.T) {
	q := queueOf(t, eight()...)
	want := eight()
	for i := 1; i < maxWait; i++ {
		w := want[i]
		if !q.Raise(w.Robot, maxPrio) || q.Raise(w.Robot, maxPrio) {
			t.Error("Raise", w)
		}
		w.Prio = maxPrio
		want[i] = w
		sort.Slice(want[:i+1], func(a, b int) bool { return stands(want[a], want[b]) })
		expect(t, q, want...)
	}
	if q.Raise(63, maxPrio) {
		t.Error("Raise of one that has it")
	}
}

// P12.3: who is cut is there no more, wherever it stood; who is not there turns nothing.
func TestCut(t *testing.T) {
	for i, w := range eight() {
		q := queueOf(t, eight()...)
		if !q.Cut(w.Robot) {
			t.Error(w, "is not there")
		}
		want := slices.Delete(eight(), i, i+1)
		expect(t, q, want...)
		for _, robot := range []int{w.Robot, 4, -1, 64, math.MinInt, math.MaxInt} {
			if q.Cut(robot) {
				t.Error(robot, "is there")
			}
			expect(t, q, want...)
		}
		put(t, q, true, w)
		expect(t, q, eight()...)
	}
	q := queueOf(t, eight()...)
	for i, w := range eight() {
		q.Cut(w.Robot)
		expect(t, q, eight()[i+1:]...)
	}
	if *q != (stamp.Queue{}) {
		t.Error("a queue of which all were cut is not as one that nobody made:", *q)
	}
}

// P12.3: robot 0 is not there till it waits, and may be cut.
func TestRobotNone(t *testing.T) {
	q := queueOf(t, one(1, 2, 3))
	if w, is := q.Find(0); is || w != (api.Waiter{}) || q.Cut(0) || q.Raise(0, 15) {
		t.Error("robot 0 is there", w, is)
	}
	put(t, q, true, api.Waiter{})
	expect(t, q, one(1, 2, 3), api.Waiter{})
	if !q.Raise(0, 1) || !q.Cut(0) || q.Cut(0) {
		t.Error("robot 0 is not there")
	}
	expect(t, q, one(1, 2, 3))
}

// P12.3: what only asks turns nothing.
func TestAsking(t *testing.T) {
	q := queueOf(t, eight()[:5]...)
	before := *q
	q.First()
	q.Find(5)
	q.Find(4)
	q.All()
	q.Len()
	q.Raise(5, 9)
	q.Cut(4)
	q.Put(one(5, 0, 9))
	q.Put(one(64, 0, 9))
	if *q != before {
		t.Error(before, *q)
	}
}

// P12.4: what is answered is new memory each time, and a change of it does not reach the queue, nor the queue's it.
func TestNewMemory(t *testing.T) {
	q := queueOf(t, eight()[:7]...)
	first, second := q.All(), q.All()
	for i := range first {
		first[i] = one(50, 50, 5)
	}
	_ = append(first, one(51, 51, 5))
	_ = append(first[:0], one(52, 52, 5))
	if !slices.Equal(second, eight()[:7]) {
		t.Error("answers share memory:", second)
	}
	expect(t, q, eight()[:7]...)
	_ = append(second, one(51, 51, 5))
	put(t, q, true, eight()[7])
	expect(t, q, eight()...)
	q.Cut(63)
	q.Raise(8, 15)
	if !slices.Equal(second, eight()[:7]) {
		t.Error("an answer changed with the queue:", second)
	}
	var empty stamp.Queue
	_ = append(empty.All(), one(1, 1, 1))
	expect(t, &empty)
	if a, b := stamp.NewClock(1), stamp.NewClock(1); a == b {
		t.Error("two clocks are one")
	}
}

// A queue, and a clock, are values: ones that are copied go their own way.
func TestCopied(t *testing.T) {
	q := queueOf(t, eight()[:4]...)
	other := *q
	other.Cut(63)
	other.Raise(0, 15)
	put(t, &other, true, one(4, 0, 15))
	expect(t, q, eight()[:4]...)
	put(t, q, true, eight()[4:]...)
	expect(t, &other, one(4, 0, 15), one(0, 3, 15), one(5, 9, 9), one(1, 2, 7))
	c := stamp.NewClock(1)
	next(t, c, 1<<32+1)
	d := *c
	next(t, &d, 1<<32+2)
	d.Hear(9)
	next(t, c, 1<<32+2)
}

// Two clocks go each its own way.
func TestClocksApart(t *testing.T) {
	a, b := stamp.NewClock(1), stamp.NewClock(1)
	next(t, a, 1<<32+1)
	a.Hear(20)
	next(t, b, 1<<32+1)
	next(t, a, 1<<32+21)
}

// A clock that nobody made, or none, answers ErrNil, also behind what it heard; it is not a clock of epoch 0.
func TestNoClock(t *testing.T) {
	for _, c := range []*stamp.Clock{nil, {}, new(stamp.Clock)} {
		for _, heard := range []uint64{0, 1, 1 << 32, greatest, math.MaxUint64} {
			if s, e := c.Next(); s != 0 || e != api.ErrNil {
				t.Error(s, e)
			}
			c.Hear(heard)
		}
		if s, e := c.Next(); s != 0 || e != api.ErrNil {
			t.Error(s, e)
		}
	}
}

// Calls on no queue answer ErrNil, or 0, false, nothing; ErrNil comes ahead of ErrArg.
func TestNoQueue(t *testing.T) {
	var q *stamp.Queue
	for _, w := range append(eight(), one(-1, 0, 0), one(0, 0, 16)) {
		if is, e := q.Put(w); is || e != api.ErrNil {
			t.Error(w, is, e)
		}
		if q.Raise(w.Robot, w.Prio) || q.Cut(w.Robot) {
			t.Error(w, "is there")
		}
		expect(t, q)
	}
}

// A queue that nobody made has no waiters, and takes them.
func TestZeroQueue(t *testing.T) {
	var q stamp.Queue
	expect(t, &q)
	if q.Raise(0, 1) || q.Cut(0) {
		t.Error("robot 0 is there")
	}
	put(t, &q, true, one(0, 0, 0))
	expect(t, &q, one(0, 0, 0))
}

// P12.5: a clock's stamps rise, each is above all that was heard of its epoch, and a later epoch's are above all of an elder one's, whatever is heard of one another.
func TestStampsRise(t *testing.T) {
	r := rand.New(rand.NewSource(12))
	for range 100 {
		epochs := []uint32{0, 1, 2, 3, 1 << 31, greatest - 1, greatest}
		clocks := make([]*stamp.Clock, len(epochs))
		counts := make([]uint64, len(epochs))
		told := map[uint64]int{}
		var all []uint64
		for i, epoch := range epochs {
			clocks[i] = stamp.NewClock(epoch)
		}
		for range 300 {
			i := r.Intn(len(epochs))
			if r.Intn(3) == 0 {
				heard := r.Uint64() >> r.Intn(64)
				if len(all) > 0 && r.Intn(2) == 0 {
					heard = all[r.Intn(len(all))]
				}
				clocks[i].Hear(heard)
				counts[i] = max(counts[i], heard%(1<<32))
				continue
			}
			s, e := clocks[i].Next()
			if counts[i] == greatest {
				if s != 0 || e != api.ErrStamp {
					t.Fatal(epochs[i], s, e)
				}
				continue
			}
			counts[i]++
			if want := uint64(epochs[i])<<32 + counts[i]; s != want || e != api.OK {
				t.Fatalf("Next = %d %v, not %d", s, e, want)
			}
			if told[s]++; told[s] > 1 {
				t.Fatal(s, "was told twice")
			}
			all = append(all, s)
		}
	}
}

// P12.5: the first stamp of an epoch is above the last one of the epoch ahead of it.
func TestLaterEpoch(t *testing.T) {
	for _, epoch := range []uint32{0, 1, 1<<31 - 1, greatest - 1} {
		elder, later := stamp.NewClock(epoch), stamp.NewClock(epoch+1)
		elder.Hear(greatest - 1)
		last, e := elder.Next()
		first, f := later.Next()
		if e != api.OK || f != api.OK || last >= first {
			t.Error(epoch, last, e, first, f)
		}
	}
}

// inAllOrders calls do with the waiters in each order that there is.
func inAllOrders(l []api.Waiter, at int, do func([]api.Waiter)) {
	if at == len(l) {
		do(l)
		return
	}
	for i := at; i < len(l); i++ {
		l[at], l[i] = l[i], l[at]
		inAllOrders(l, at+1, do)
		l[at], l[i] = l[i], l[at]
	}
}

// P12.5: in whatever order waiters come, the queue is the same.
func TestAnyOrder(t *testing.T) {
	for n := range maxWait + 1 {
		same := *queueOf(t, eight()[:n]...)
		inAllOrders(eight()[:n], 0, func(l []api.Waiter) {
			var q stamp.Queue
			put(t, &q, true, l...)
			if q != same {
				t.Fatal(l, q, same)
			}
			if all := q.All(); !slices.Equal(all, eight()[:n]) {
				t.Fatal(l, all)
			}
		})
	}
}

// stands is the chapter's order, word by word.
func stands(a, b api.Waiter) bool {
	if a.Prio > b.Prio {
		return true
	}
	if a.Prio == b.Prio && a.Stamp < b.Stamp {
		return true
	}
	return a.Prio == b.Prio && a.Stamp == b.Stamp && a.Robot < b.Robot
}

// model is the chapter's queue: each robot's waiter.
type model map[int]api.Waiter

func (m model) all() []api.Waiter {
	var l []api.Waiter
	for robot := range maxRobots {
		if w, is := m[robot]; is {
			l = append(l, w)
		}
	}
	sort.SliceStable(l, func(i, j int) bool { return stands(l[i], l[j]) })
	return l
}

func (m model) put(w api.Waiter) (bool, api.Errno) {
	if w.Robot < 0 || w.Robot > 63 || w.Prio < 0 || w.Prio > 15 {
		return false, api.ErrArg
	}
	old, is := m[w.Robot]
	if is && w.Prio <= old.Prio {
		return true, api.OK
	}
	if !is && len(m) == maxWait {
		return false, api.OK
	}
	m[w.Robot] = w
	return true, api.OK
}

func (m model) raise(robot, prio int) bool {
	w, is := m[robot]
	if !is || w.Prio >= prio || prio > 15 {
		return false
	}
	w.Prio = prio
	m[robot] = w
	return true
}

// P12.2, P12.3 and P12.5: whatever is done, each answer is the model's; and the queue is as one into which its waiters were put anew.
func TestModel(t *testing.T) {
	r := rand.New(rand.NewSource(13))
	for range 300 {
		var q stamp.Queue
		m := model{}
		many := 1 + r.Intn(14)
		for range 200 {
			robot, prio := r.Intn(many), r.Intn(4)
			if r.Intn(20) == 0 {
				robot, prio = r.Intn(70)-3, r.Intn(22)-3
			}
			switch r.Intn(5) {
			case 0, 1:
				w := one(robot, uint64(r.Intn(4)), prio)
				is, e := q.Put(w)
				if want, f := m.put(w); is != want || e != f {
					t.Fatalf("Put(%v) = %v %v, not %v %v", w, is, e, want, f)
				}
			case 2, 3:
				is := q.Raise(robot, prio)
				if want := m.raise(robot, prio); is != want {
					t.Fatalf("Raise(%d, %d) = %v, not %v", robot, prio, is, want)
				}
			case 4:
				is := q.Cut(robot)
				if _, want := m[robot]; is != want {
					t.Fatalf("Cut(%d) = %v, not %v", robot, is, want)
				}
				delete(m, robot)
			}
			expect(t, &q, m.all()...)
			if anew := queueOf(t, m.all()...); *anew != q {
				t.Fatal(*anew, q)
			}
		}
	}
}
