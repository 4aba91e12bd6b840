package chase_test

import (
	"math"
	"math/rand"
	"reflect"
	"slices"
	"testing"

	"wagonway/api"
	"wagonway/chase"
)

// These are limits as the chapters write them out.
const (
	maxRobots = 64
	maxPrio   = 15
	maxCells  = 1024
	maxHops   = 64
)

// Numbers that are none; some are ones if they are cut to fewer bits, or made positive.
var (
	noRobots = []int{-1, maxRobots, math.MinInt, math.MaxInt, -7, 256, 1 << 16, 1 << 32, 1<<32 + 7}
	noPrios  = []int{-1, maxPrio + 1, math.MinInt, math.MaxInt, -7, 256, 1 << 16, 1 << 32, 1<<32 + 7}
	noCells  = []int{-1, maxCells, math.MinInt, math.MaxInt, -7, 1 << 16, 1 << 32, 1<<32 + 7}
	noHops   = []int{0, -1, maxHops + 1, math.MinInt, math.MaxInt, -7, 256, 257, 1 << 32, 1<<32 + 7}
)

func wait(robot, cell int) api.Wait { return api.Wait{Is: true, Cell: cell, Robot: robot} }

func probe(origin, other, prio, hops, cell int) api.Message {
	return api.Message{Kind: 6, Origin: origin, Other: other, Prio: prio, Hops: hops, Cell: cell}
}

func abort(origin, other int) api.Message {
	return api.Message{Kind: 7, Origin: origin, Other: other}
}

// begins expects a probe.
func begins(t *testing.T, self, prio int, w api.Wait, want api.Message) api.Message {
	t.Helper()
	m, e := chase.Begin(self, prio, w)
	if e != api.OK || !reflect.DeepEqual(m, want) {
		t.Errorf("Begin(%d, %d, %v) = %+v %v, not %+v", self, prio, w, m, e, want)
	}
	return m
}

func failsBegin(t *testing.T, self, prio int, w api.Wait) {
	t.Helper()
	if m, e := chase.Begin(self, prio, w); e != api.ErrArg || !reflect.DeepEqual(m, api.Message{}) {
		t.Errorf("Begin(%d, %d, %v) = %+v %v, not ErrArg", self, prio, w, m, e)
	}
}

// meets expects what becomes of a probe.
func meets(t *testing.T, self, prio int, w api.Wait, m api.Message, what int, want api.Message) api.Message {
	t.Helper()
	is, next, e := chase.Meet(self, prio, w, m)
	if e != api.OK || is != what || !reflect.DeepEqual(next, want) {
		t.Errorf("Meet(%d, %d, %v, %+v) = %d %+v %v, not %d %+v", self, prio, w, m, is, next, e, what, want)
	}
	return next
}

func failsMeet(t *testing.T, self, prio int, w api.Wait, m api.Message, want api.Errno) {
	t.Helper()
	if what, next, e := chase.Meet(self, prio, w, m); e != want || what != 0 || !reflect.DeepEqual(next, api.Message{}) {
		t.Errorf("Meet(%d, %d, %v, %+v) = %d %+v %v, not %v", self, prio, w, m, what, next, e, want)
	}
}

func circle(t *testing.T, waits []int, from int, want ...int) {
	t.Helper()
	if l := chase.Circle(waits, from); !slices.Equal(l, want) {
		t.Errorf("Circle(%v, %d) = %v, not %v", waits, from, l, want)
	}
}

func least(t *testing.T, prios, robots []int, want int) {
	t.Helper()
	if n := chase.Least(prios, robots); n != want {
		t.Errorf("Least(%v, %v) = %d, not %d", prios, robots, n, want)
	}
}

// The chapter's table.
func TestExamples(t *testing.T) {
	m := begins(t, 1, 5, wait(2, 9), probe(1, 1, 5, 64, 9))
	next := meets(t, 2, 3, wait(1, 4), m, 1, probe(1, 2, 3, 63, 4))
	meets(t, 2, 3, api.Wait{}, m, 0, api.Message{})
	meets(t, 1, 5, wait(2, 9), next, 2, abort(1, 2))
	circle(t, []int{1, 2, 0, 0}, 3)
	circle(t, []int{1, 2, 0, 0}, 1, 1, 2, 0)
	least(t, []int{5, 3, 3}, []int{0, 1, 2}, 1)
}

func TestConstants(t *testing.T) {
	for i, x := range [][2]int{
		{api.MaxRobots, maxRobots}, {api.MaxPrio, maxPrio}, {api.MaxCells, maxCells}, {api.MaxHops, maxHops},
		{api.Probe, 6}, {api.Abort, 7}, {api.ChaseDrop, 0}, {api.ChaseOn, 1}, {api.ChaseFound, 2},
		{int(api.ErrArg), 2}, {int(api.ErrChase), 160},
	} {
		if x[0] != x[1] {
			t.Errorf("number %d is %d, not %d", i, x[0], x[1])
		}
	}
}

// P16.1: the probe names the robot that begins it twice, its priority, and the cell, with all hops left.
func TestBegin(t *testing.T) {
	for _, self := range []int{0, 1, 30, maxRobots - 1} {
		for _, prio := range []int{0, 1, 7, maxPrio} {
			for _, robot := range []int{0, 2, 31, maxRobots - 1} {
				for _, cell := range []int{0, 1, 500, maxCells - 1} {
					if robot != self {
						begins(t, self, prio, wait(robot, cell), probe(self, self, prio, maxHops, cell))
					}
				}
			}
		}
	}
}

// P16.1: what may not be is ErrArg.
func TestBeginErrArg(t *testing.T) {
	for _, n := range noRobots {
		failsBegin(t, n, 5, wait(2, 9))
		failsBegin(t, 1, 5, wait(n, 9))
	}
	for _, n := range noPrios {
		failsBegin(t, 1, n, wait(2, 9))
	}
	for _, n := range noCells {
		failsBegin(t, 1, 5, wait(2, n))
	}
	for _, self := range []int{0, 1, maxRobots - 1} { // it waits for itself
		failsBegin(t, self, 5, wait(self, 9))
	}
	failsBegin(t, 1, 5, api.Wait{}) // it waits for none
	failsBegin(t, 1, 5, api.Wait{Is: false, Cell: 9, Robot: 2})
}

// P16.2: it is found by whom it names as its Origin, whatever else: also by the last hop, and by who waits for none now.
func TestMeetFound(t *testing.T) {
	for _, self := range []int{0, 1, maxRobots - 1} {
		for _, other := range []int{0, 1, 2, maxRobots - 1} {
			for _, hops := range []int{1, 2, 63, maxHops} {
				for _, w := range []api.Wait{{}, wait(5, 0), wait(6, maxCells-1)} {
					for _, prio := range []int{0, 3, maxPrio} {
						meets(t, self, prio, w, probe(self, other, 3, hops, 8), 2, abort(self, other))
					}
				}
			}
		}
	}
}

// P16.2: it ends at who waits for none, and by its last hop.
func TestMeetDrop(t *testing.T) {
	for _, hops := range []int{1, 2, 63, maxHops} {
		meets(t, 2, 3, api.Wait{}, probe(1, 1, 5, hops, 9), 0, api.Message{})
		meets(t, 2, 3, api.Wait{}, probe(1, 2, 5, hops, 9), 0, api.Message{})
		meets(t, 2, 3, api.Wait{Is: false, Cell: 4, Robot: 1}, probe(1, 1, 5, hops, 9), 0, api.Message{})
	}
	meets(t, 2, 3, wait(1, 4), probe(1, 1, 5, 1, 9), 0, api.Message{})
	meets(t, 2, 3, wait(7, 4), probe(1, 2, 5, 1, 9), 0, api.Message{})
}

// P16.2: it goes on with a hop less, by the wait's cell; Origin stays.
func TestMeetOn(t *testing.T) {
	for _, hops := range []int{2, 3, 63, maxHops} {
		for _, cell := range []int{0, 4, maxCells - 1} {
			for _, robot := range []int{0, 1, 9, maxRobots - 1} {
				meets(t, 2, 6, wait(robot, cell), probe(1, 8, 5, hops, 9), 1, probe(1, 8, 5, hops-1, cell))
				meets(t, 2, 4, wait(robot, cell), probe(1, 8, 5, hops, 9), 1, probe(1, 2, 4, hops-1, cell))
			}
		}
	}
	for _, origin := range []int{0, 1, 3, maxRobots - 1} {
		meets(t, 2, 6, wait(1, 4), probe(origin, 8, 5, 64, 9), 1, probe(origin, 8, 5, 63, 4))
	}
}

// P16.2: the lesser one is named, by priority, then by number; who is named already may have turned its priority.
func TestMeetLeast(t *testing.T) {
	for _, x := range []struct{ self, prio, other, named, least, least2 int }{
		{2, 4, 8, 5, 2, 4}, {8, 4, 2, 5, 8, 4}, // the priority comes first
		{2, 6, 8, 5, 8, 5}, {8, 6, 2, 5, 2, 5},
		{2, 5, 8, 5, 2, 5}, {8, 5, 2, 5, 2, 5}, // then the number
		{0, 0, 63, 0, 0, 0}, {63, 0, 0, 0, 0, 0}, {63, 0, 0, 15, 63, 0}, {0, 15, 63, 0, 63, 0},
		{3, 5, 3, 5, 3, 5}, {3, 4, 3, 5, 3, 4}, {3, 6, 3, 5, 3, 5}, // it met the same one ahead of that
		{2, 14, 1, 15, 2, 14}, {10, 9, 9, 10, 10, 9},
	} {
		meets(t, x.self, x.prio, wait(33, 4), probe(32, x.other, x.named, 7, 9), 1, probe(32, x.least, x.least2, 6, 4))
	}
}

// P16.2: what may not be is ErrArg, ahead of all else.
func TestMeetErrArg(t *testing.T) {
	none, w := api.Wait{}, wait(2, 9)
	for _, m := range []api.Message{probe(1, 1, 5, 64, 9), probe(3, 1, 5, 64, 9), probe(3, 1, 5, 1, 9), {}, probe(-1, 1, 5, 64, 9)} {
		for _, n := range noRobots {
			failsMeet(t, n, 5, w, m, api.ErrArg)
			failsMeet(t, n, 5, none, m, api.ErrArg)
			failsMeet(t, 1, 5, wait(n, 9), m, api.ErrArg)
		}
		for _, n := range noPrios {
			failsMeet(t, 1, n, w, m, api.ErrArg)
			failsMeet(t, 1, n, none, m, api.ErrArg)
		}
		for _, n := range noCells {
			failsMeet(t, 1, 5, wait(2, n), m, api.ErrArg)
		}
		for _, self := range []int{0, 1, maxRobots - 1} {
			failsMeet(t, self, 5, wait(self, 9), m, api.ErrArg)
		}
	}
}

// P16.2: what is no probe that may be is ErrChase, also for whom it names, and who waits for none.
func TestMeetErrChase(t *testing.T) {
	var bad []api.Message
	turned := func(turn func(m *api.Message)) {
		for _, origin := range []int{1, 3} {
			m := probe(origin, 4, 5, 6, 9)
			turn(&m)
			bad = append(bad, m)
		}
	}
	for _, n := range noRobots {
		turned(func(m *api.Message) { m.Origin = n })
		turned(func(m *api.Message) { m.Other = n })
	}
	for _, n := range noPrios {
		turned(func(m *api.Message) { m.Prio = n })
	}
	for _, n := range noHops {
		turned(func(m *api.Message) { m.Hops = n })
	}
	for _, n := range noCells {
		turned(func(m *api.Message) { m.Cell = n })
	}
	for _, n := range []int{0, 1, 2, 3, 4, 5, 7, 8, 9, 10, 11, 12, -6, 6 + 256, 6 + 1<<32, math.MinInt, math.MaxInt} {
		turned(func(m *api.Message) { m.Kind = n })
	}
	for _, n := range []uint64{1, 1 << 31, math.MaxUint32} {
		turned(func(m *api.Message) { m.Gen = uint32(n) })
		turned(func(m *api.Message) { m.Stamp = n })
	}
	turned(func(m *api.Message) { m.Stamp = 1 << 32 })
	turned(func(m *api.Message) { m.Stamp = 1 << 63 })
	turned(func(m *api.Message) { m.Claims = []api.Claim{{}} })
	turned(func(m *api.Message) { m.Claims = []api.Claim{{Cell: 1, Gen: 2}, {Cell: 3, Gen: 4}} })
	for _, m := range append(bad, api.Message{}, abort(1, 4)) {
		failsMeet(t, 1, 5, wait(2, 9), m, api.ErrChase)
		failsMeet(t, 1, 5, api.Wait{}, m, api.ErrChase)
	}
}

// P16.2: a probe at all its edges may be.
func TestMeetEdges(t *testing.T) {
	for _, m := range []api.Message{
		probe(0, 0, 0, 1, 0), probe(maxRobots-1, maxRobots-1, maxPrio, maxHops, maxCells-1),
		probe(0, maxRobots-1, 0, maxHops, maxCells-1), probe(maxRobots-1, 0, maxPrio, 1, 0),
	} {
		m.Claims = []api.Claim{} // as none
		meets(t, m.Origin, 5, wait(2, 9), m, 2, abort(m.Origin, m.Other))
		meets(t, 1, 5, api.Wait{}, m, 0, api.Message{})
		for _, self := range []int{1, 62} {
			for _, prio := range []int{0, maxPrio} {
				if what, _, e := chase.Meet(self, prio, wait(2, 9), m); e != api.OK || (what == api.ChaseOn) != (m.Hops > 1) {
					t.Errorf("Meet(%d, %d, .., %+v) = %d %v", self, prio, m, what, e)
				}
			}
		}
	}
}

// P16.3: a circle is told from whom it is asked for on; who only comes to one is on none.
func TestCircle(t *testing.T) {
	circle(t, []int{1, 0}, 0, 0, 1)
	circle(t, []int{1, 0}, 1, 1, 0)
	circle(t, []int{2, 0, 1}, 0, 0, 2, 1)
	circle(t, []int{2, 0, 1}, 1, 1, 0, 2)
	circle(t, []int{2, 0, 1}, 2, 2, 1, 0)
	circle(t, []int{0}, 0, 0) // it waits for itself
	circle(t, []int{1, 1}, 1, 1)
	circle(t, []int{1, 1}, 0)
	tail := []int{1, 2, 3, 4, 2, 0, -1, 6} // 5 0 1 come to 2 3 4, 7 to 6, which waits for none
	for _, from := range []int{0, 1, 5, 6, 7} {
		circle(t, tail, from)
	}
	circle(t, tail, 2, 2, 3, 4)
	circle(t, tail, 3, 3, 4, 2)
	circle(t, tail, 4, 4, 2, 3)
}

// P16.3: numbers that are none of the list's places wait for none, wherever they stand.
func TestCircleNone(t *testing.T) {
	for _, from := range []int{-1, 0, 1, 2, math.MinInt, math.MaxInt, 1 << 32} {
		circle(t, nil, from)
		circle(t, []int{}, from)
		circle(t, []int{-1, -1}, from)
	}
	for _, n := range []int{-1, 3, -3, math.MinInt, math.MaxInt, 1 << 32, 1<<32 + 1} {
		circle(t, []int{1, 0, n}, 2)
		circle(t, []int{1, 0, n}, 0, 0, 1)
		circle(t, []int{1, 2, n}, 0)
		circle(t, []int{1, 0, 1}, n)
		circle(t, []int{n, n, n}, n)
	}
}

// P16.3: circles and ways of any length, also beyond as many robots as there are of a fleet.
func TestCircleLong(t *testing.T) {
	for _, many := range []int{maxHops - 1, maxHops, maxHops + 1, 5000} {
		ring, rho := make([]int, many), make([]int, many)
		for n := range many {
			ring[n], rho[n] = (n+1)%many, min(n+1, many-1)
		}
		rho[many-1] = many - 2
		var want []int
		for n := range many {
			want = append(want, (n+7)%many)
		}
		circle(t, ring, 7, want...)
		circle(t, rho, 0)
		circle(t, rho, many-3)
		circle(t, rho, many-2, many-2, many-1)
		circle(t, rho, many-1, many-1, many-2)
	}
}

// onCircle says, in the chapter's words, whether so many hops come back.
func onCircle(waits []int, from int) []int {
	l := []int{from}
	for range waits {
		last := l[len(l)-1]
		if last < 0 || last >= len(waits) {
			return nil
		}
		if waits[last] == from {
			return l
		}
		l = append(l, waits[last])
	}
	return nil
}

// P16.3: all waits of up to five robots, numbers beyond them too.
func TestCircleAll(t *testing.T) {
	for many := range 6 {
		waits := make([]int, many)
		all := 1
		for range many {
			all *= many + 2
		}
		for code := range all {
			for n := range many {
				waits[n] = code%(many+2) - 1
				code /= many + 2
			}
			for from := -1; from <= many; from++ {
				circle(t, waits, from, onCircle(waits, from)...)
			}
		}
	}
}

// P16.3: the least one is by priority, then by number, wherever it stands.
func TestLeast(t *testing.T) {
	least(t, []int{5, 3, 3}, []int{2, 1, 0}, 1)
	least(t, []int{5, 3, 3}, []int{2, 0}, 2)
	least(t, []int{5, 3, 3}, []int{0}, 0)
	least(t, []int{5, 3, 3}, []int{2, 2, 1, 1, 2}, 1)
	least(t, []int{1, 2, 3}, []int{2, 1}, 1)
	least(t, []int{3, 2, 1}, []int{0, 1}, 1)
	least(t, []int{0, 0, 0}, []int{2, 1, 0}, 0)
	least(t, []int{15, 0, 14, 7}, []int{0, 3, 2}, 3)
	least(t, []int{-3, 0, -4}, []int{0, 1, 2}, 2)
	least(t, []int{math.MaxInt, math.MinInt}, []int{0, 1}, 1)
	least(t, []int{math.MinInt, math.MaxInt}, []int{1, 0}, 0)
}

// P16.3: where there is no priority it is 0; without robots it is -1.
func TestLeastNone(t *testing.T) {
	for _, prios := range [][]int{nil, {}, {5}, {-5, -5}} {
		least(t, prios, nil, -1)
		least(t, prios, []int{}, -1)
	}
	least(t, nil, []int{7, 3, 9}, 3)
	least(t, []int{5, 3}, []int{0, 1, 2}, 2)
	least(t, []int{5, 0}, []int{2, 1}, 1)
	least(t, []int{5, 1}, []int{3, 2, 1, 0}, 2)
	least(t, []int{5, -1}, []int{3, 2, 1, 0}, 1)
	least(t, []int{0, 1}, []int{math.MaxInt, 1}, math.MaxInt)
	least(t, []int{0, 1}, []int{math.MaxInt, 0}, 0)
	least(t, []int{0, 0}, []int{1, -4, 0}, -4)
	least(t, []int{0, 0}, []int{1, math.MinInt, math.MaxInt}, math.MinInt)
}

// P16.4: what is handed in is only read.
func TestHandedIn(t *testing.T) {
	waits, prios, robots := []int{1, 2, 0, 0}, []int{5, 3, 3}, []int{2, 0, 1}
	chase.Circle(waits, 1)
	chase.Circle(waits, 3)
	chase.Least(prios, robots)
	m := probe(1, 1, 5, 64, 9)
	m.Claims = make([]api.Claim, 0, 2)
	chase.Meet(2, 3, wait(1, 4), m)
	chase.Meet(1, 3, wait(2, 4), m)
	if !slices.Equal(waits, []int{1, 2, 0, 0}) || !slices.Equal(prios, []int{5, 3, 3}) || !slices.Equal(robots, []int{2, 0, 1}) {
		t.Error("what was handed in turned:", waits, prios, robots)
	}
	if m.Claims[:1][0] != (api.Claim{}) || m.Hops != 64 || m.Other != 1 {
		t.Error("the probe turned:", m)
	}
}

// P16.4: what is answered is new memory, also of claims that are empty.
func TestNewMemory(t *testing.T) {
	waits := []int{1, 2, 0}
	a, b := chase.Circle(waits, 1), chase.Circle(waits, 1)
	for i := range a {
		a[i] = 99
	}
	waits[0] = 7
	if !slices.Equal(waits, []int{7, 2, 0}) || !slices.Equal(b, []int{1, 2, 0}) {
		t.Error("memory is shared:", waits, b)
	}
	for _, self := range []int{1, 2} { // it is found, or goes on
		m := probe(1, 1, 5, 64, 9)
		m.Claims = make([]api.Claim, 0, 2)
		_, next, _ := chase.Meet(self, 3, wait(3, 4), m)
		if cap(next.Claims) > 0 {
			t.Errorf("Meet at %d hands out claims of the probe", self)
		}
	}
}

// goes lets a probe go along waits till it ends, and tells how it did, and by how many hops.
func goes(t *testing.T, waits, prios []int, from int) (what int, last api.Message, hops int) {
	t.Helper()
	w := func(robot int) api.Wait {
		return api.Wait{Is: waits[robot] >= 0, Cell: 100 + robot, Robot: max(waits[robot], 0)}
	}
	m, e := chase.Begin(from, prios[from], w(from))
	if e != api.OK {
		t.Fatalf("Begin(%d, %d, %v) = %v", from, prios[from], w(from), e)
	}
	at := waits[from]
	for hops = 1; ; hops++ {
		what, next, e := chase.Meet(at, prios[at], w(at), m)
		if e != api.OK {
			t.Fatalf("Meet(%d, %d, %v, %+v) = %v", at, prios[at], w(at), m, e)
		}
		if what != api.ChaseOn {
			return what, next, hops
		}
		if next.Cell != 100+at || next.Hops != maxHops-hops {
			t.Fatalf("hop %d is of %+v", hops, next)
		}
		m, at = next, waits[at]
	}
}

// chased holds one probe against the circle that there is, or is not.
func chased(t *testing.T, waits, prios []int, from int) {
	t.Helper()
	ring := onCircle(waits, from)
	what, last, hops := goes(t, waits, prios, from)
	if (what == api.ChaseFound) != (ring != nil) || hops > maxHops {
		t.Errorf("of %v a probe of %d ends with %d behind %d hops; the circle is %v", waits, from, what, hops, ring)
	}
	if what != api.ChaseFound {
		return
	}
	low := ring[0]
	for _, robot := range ring {
		if prios[robot] < prios[low] || prios[robot] == prios[low] && robot < low {
			low = robot
		}
	}
	if !reflect.DeepEqual(last, abort(from, low)) || hops != len(ring) {
		t.Errorf("of %v, by %v, a probe of %d names %+v behind %d hops, not %d", waits, prios, from, last, hops, low)
	}
	circle(t, waits, from, ring...)
	least(t, prios, ring, low)
}

// P16.5: of drawn waits a probe comes back just if there is a circle, and names the least one.
func TestProbesComeBack(t *testing.T) {
	draw := rand.New(rand.NewSource(16))
	for range 4000 {
		many := 2 + draw.Intn(maxRobots-1)
		waits, prios := make([]int, many), make([]int, many)
		free := draw.Intn(3) // how often one waits for none
		for n := range many {
			prios[n] = draw.Intn(1 + draw.Intn(maxPrio+1))
			waits[n] = (n + 1 + draw.Intn(min(many-1, 1+draw.Intn(many)))) % many
			if draw.Intn(10) < free {
				waits[n] = -1
			}
		}
		for n := range many {
			if waits[n] >= 0 {
				chased(t, waits, prios, n)
			}
		}
	}
}

// P16.5: of permutations all robots are on circles, up to one of all of them.
func TestProbesOfRings(t *testing.T) {
	draw := rand.New(rand.NewSource(5))
	for many := 2; many <= maxRobots; many++ {
		order, waits, prios := draw.Perm(many), make([]int, many), make([]int, many)
		for i, n := range order {
			waits[n], prios[n] = order[(i+1)%many], draw.Intn(maxPrio+1)
		}
		for n := range many {
			chased(t, waits, prios, n)
		}
	}
}

// P16.5: a probe that comes to a circle through others goes round in it till its hops end.
func TestProbeOfOthersCircle(t *testing.T) {
	what, last, hops := goes(t, []int{1, 2, 1}, []int{0, 0, 0}, 0)
	if what != api.ChaseDrop || hops != maxHops || !reflect.DeepEqual(last, api.Message{}) {
		t.Errorf("it ends with %d %+v behind %d hops", what, last, hops)
	}
}

// P16.5: a probe ends behind MaxHops hops, however waits and priorities turn meanwhile.
func TestProbesEnd(t *testing.T) {
	draw := rand.New(rand.NewSource(7))
	for range 500 {
		many := 2 + draw.Intn(maxRobots-1)
		some := func(self int) api.Wait { return wait((self+1+draw.Intn(many-1))%many, draw.Intn(maxCells)) }
		from := draw.Intn(many)
		w := some(from)
		m, e := chase.Begin(from, draw.Intn(maxPrio+1), w)
		what := api.ChaseOn
		for hops := 1; what == api.ChaseOn; hops++ {
			if e != api.OK || hops > maxHops || m.Origin != from {
				t.Fatalf("behind %d hops of a probe of %d: %+v %v", hops, from, m, e)
			}
			at := w.Robot
			w = some(at)
			what, m, e = chase.Meet(at, draw.Intn(maxPrio+1), w, m)
		}
	}
}
