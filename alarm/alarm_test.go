package alarm_test

import (
	"math"
	"math/big"
	"math/rand"
	"slices"
	"testing"

	"wagonway/alarm"
	"wagonway/api"
)

// These are limits as the chapter writes them out.
const (
	maxDelay = 4294967296
	maxTries = 1000
	lastTick = math.MaxUint64
)

// good are rules that may be, with their edges.
func good() []alarm.Rule {
	l := []alarm.Rule{
		{1, 1}, {1, 2}, {1, 3}, {2, 2}, {2, 3}, {3, 20}, {5, 37}, {4, 8}, {4, 9}, {4, 7}, {7, 7}, {1, 1000}, {1, 1 << 31},
		{1, maxDelay - 1}, {1, maxDelay}, {2, maxDelay}, {3, maxDelay}, {maxDelay - 1, maxDelay - 1}, {maxDelay - 1, maxDelay},
		{maxDelay, maxDelay}, {1 << 31, maxDelay}, {1<<31 + 1, maxDelay}, {1<<31 - 1, maxDelay},
	}
	r := rand.New(rand.NewSource(9))
	for range 100 {
		c := 1 + uint64(r.Int63n(maxDelay>>r.Intn(33)))
		l = append(l, alarm.Rule{Base: 1 + uint64(r.Int63n(int64(c)))>>r.Intn(10), Cap: c})
	}
	return l
}

// bad are rules that may not be: no Base, a Base above the Cap, a Cap above MaxDelay.
func bad() []alarm.Rule {
	return []alarm.Rule{
		{}, {0, 1}, {0, maxDelay}, {0, lastTick}, {1, 0}, {2, 1}, {21, 20}, {maxDelay, 0}, {maxDelay, maxDelay - 1}, {maxDelay + 1, maxDelay},
		{lastTick, 1}, {lastTick, maxDelay}, {1, maxDelay + 1}, {maxDelay, maxDelay + 1}, {maxDelay + 1, maxDelay + 1}, {1, 2*maxDelay + 1},
		{1, lastTick}, {lastTick, lastTick}, {1 << 63, 1 << 63},
	}
}

// ticks are some, with the edges.
func ticks() []uint64 {
	return []uint64{
		0, 1, 2, 10, 1<<31 - 1, 1 << 32, 1<<63 - 1, 1 << 63, lastTick - maxDelay - 1, lastTick - maxDelay, lastTick - maxDelay + 1,
		lastTick - 20, lastTick - 3, lastTick - 1, lastTick,
	}
}

// delay is the chapter's, by numbers that are never too great.
func delay(r alarm.Rule, tries int) uint64 {
	d := new(big.Int).SetUint64(r.Base)
	d.Lsh(d, uint(min(max(tries, 0), 100)))
	if cap := new(big.Int).SetUint64(r.Cap); d.Cmp(cap) > 0 {
		d = cap
	}
	return d.Uint64()
}

// behind is the chapter's sum of two ticks, likewise.
func behind(now, d uint64) uint64 {
	sum := new(big.Int).Add(new(big.Int).SetUint64(now), new(big.Int).SetUint64(d))
	if !sum.IsUint64() {
		return lastTick
	}
	return sum.Uint64()
}

// The chapter's examples.
func TestExamples(t *testing.T) {
	r := alarm.Rule{Base: 3, Cap: 20}
	for _, x := range []struct {
		tries int
		want  uint64
	}{{0, 3}, {2, 12}, {3, 20}, {70, 20}} {
		if d := r.Delay(x.tries); d != x.want {
			t.Errorf("Delay(%d) = %d", x.tries, d)
		}
	}
	if d := r.Shaken(2, 9); d != 14 {
		t.Errorf("Shaken(2, 9) = %d", d)
	}
	a := r.Start(10)
	if a != (alarm.Alarm{On: true, At: 13}) {
		t.Errorf("Start(10) = %+v", a)
	}
	a = r.Again(a, 13)
	if a != (alarm.Alarm{On: true, At: 19, Tries: 1}) {
		t.Errorf("Again = %+v", a)
	}
	if r.Rings(a, 18) {
		t.Error("rings at 18")
	}
	if !r.Rings(a, 19) {
		t.Error("rings not at 19")
	}
}

// Words: the limits.
func TestLimits(t *testing.T) {
	if uint64(alarm.MaxDelay) != maxDelay || alarm.MaxTries != maxTries {
		t.Errorf("MaxDelay %d, MaxTries %d", uint64(alarm.MaxDelay), alarm.MaxTries)
	}
}

// P9.1: rules that may be, and those that may not.
func TestCheck(t *testing.T) {
	for _, r := range good() {
		if e := alarm.Check(r); e != api.OK {
			t.Errorf("Check(%v) = %v", r, e)
		}
	}
	for _, r := range bad() {
		if e := alarm.Check(r); e != api.ErrRule {
			t.Errorf("Check(%v) = %v", r, e)
		}
	}
}

// P9.1: by a rule that may not be nothing waits, is set, or rings.
func TestBadRules(t *testing.T) {
	for _, r := range bad() {
		for _, tries := range []int{math.MinInt, -1, 0, 1, 33, 1000, math.MaxInt} {
			if d := r.Delay(tries); d != 0 {
				t.Errorf("%v: Delay(%d) = %d", r, tries, d)
			}
			for _, draw := range ticks() {
				if d := r.Shaken(tries, draw); d != 0 {
					t.Errorf("%v: Shaken(%d, %d) = %d", r, tries, draw, d)
				}
			}
		}
		for _, now := range ticks() {
			if a := r.Start(now); a != (alarm.Alarm{}) {
				t.Errorf("%v: Start(%d) = %+v", r, now, a)
			}
			for _, a := range []alarm.Alarm{{On: true}, {On: true, At: now, Tries: 3}, {}, {At: now, Tries: 3}} {
				if b := r.Again(a, now); b != (alarm.Alarm{}) {
					t.Errorf("%v: Again(%+v, %d) = %+v", r, a, now, b)
				}
				if r.Rings(a, now) {
					t.Errorf("%v: Rings(%+v, %d)", r, a, now)
				}
			}
		}
	}
}

// P9.2: Base doubled as often as there were tries, up to Cap, which may be no double of it; below 0 as of 0.
func TestDelay(t *testing.T) {
	for _, x := range []struct {
		rule alarm.Rule
		want []uint64
	}{
		{alarm.Rule{Base: 1, Cap: 1}, []uint64{1, 1, 1}},
		{alarm.Rule{Base: 4, Cap: 7}, []uint64{4, 7, 7}},
		{alarm.Rule{Base: 4, Cap: 8}, []uint64{4, 8, 8}},
		{alarm.Rule{Base: 4, Cap: 9}, []uint64{4, 8, 9, 9}},
		{alarm.Rule{Base: 5, Cap: 37}, []uint64{5, 10, 20, 37, 37}},
		{alarm.Rule{Base: 1 << 30, Cap: maxDelay}, []uint64{1 << 30, 1 << 31, 1 << 32, 1 << 32}},
		{alarm.Rule{Base: maxDelay - 1, Cap: maxDelay}, []uint64{maxDelay - 1, maxDelay, maxDelay}},
	} {
		for tries, want := range x.want {
			if d := x.rule.Delay(tries); d != want {
				t.Errorf("%v: Delay(%d) = %d, not %d", x.rule, tries, d, want)
			}
		}
	}
	for _, r := range good() {
		for tries := -5; tries < 100; tries++ {
			if d := r.Delay(tries); d != delay(r, tries) {
				t.Errorf("%v: Delay(%d) = %d, not %d", r, tries, d, delay(r, tries))
			}
		}
		for _, tries := range []int{math.MinInt, -1 << 32, -64, -1} {
			if d := r.Delay(tries); d != r.Base {
				t.Errorf("%v: Delay(%d) = %d", r, tries, d)
			}
		}
		for _, tries := range []int{128, 256, 999, 1000, 1001, 1 << 32, 1<<32 + 1, math.MaxInt} {
			if d := r.Delay(tries); d != r.Cap {
				t.Errorf("%v: Delay(%d) = %d", r, tries, d)
			}
		}
	}
}

// P9.2: by its draws Shaken is each number from the delay to one and a half of it, one behind the other, and no other one; above the cap, too.
func TestShaken(t *testing.T) {
	for _, r := range []alarm.Rule{{1, 1}, {1, 2}, {2, 3}, {3, 20}, {5, 37}, {4, 64}} {
		for tries := -2; tries < 8; tries++ {
			d := delay(r, tries)
			want := d
			for draw := range uint64(200) {
				if s := r.Shaken(tries, draw); s != want {
					t.Fatalf("%v: Shaken(%d, %d) = %d, not %d", r, tries, draw, s, want)
				}
				want++
				if want > d+d/2 {
					want = d
				}
			}
		}
	}
}

// P9.2: likewise by great draws, and of great delays.
func TestShakenGreat(t *testing.T) {
	r := alarm.Rule{Base: maxDelay, Cap: maxDelay}
	for _, x := range []struct{ draw, want uint64 }{
		{0, 4294967296}, {1, 4294967297}, {1 << 31, 6442450944}, {1<<31 + 1, 4294967296}, {1<<31 + 2, 4294967297},
	} {
		if s := r.Shaken(0, x.draw); s != x.want {
			t.Errorf("Shaken(0, %d) = %d, not %d", x.draw, s, x.want)
		}
	}
	draws := ticks()
	random := rand.New(rand.NewSource(10))
	for range 20 {
		draws = append(draws, random.Uint64())
	}
	for _, r := range good() {
		for _, tries := range []int{math.MinInt, -1, 0, 1, 2, 5, 31, 32, 33, 1000, math.MaxInt} {
			d := delay(r, tries)
			for _, draw := range draws {
				if s := r.Shaken(tries, draw); s < d || s-d != draw%(d/2+1) {
					t.Errorf("%v: Shaken(%d, %d) = %d", r, tries, draw, s)
				}
			}
		}
	}
}

// P9.3: what is set is On, rings Base ticks behind, or at the last tick, and never rang in vain.
func TestStart(t *testing.T) {
	for _, r := range good() {
		for _, now := range ticks() {
			want := alarm.Alarm{On: true, At: behind(now, r.Base)}
			if a := r.Start(now); a != want {
				t.Errorf("%v: Start(%d) = %+v, not %+v", r, now, a, want)
			}
		}
	}
	r := alarm.Rule{Base: 3, Cap: 20}
	for _, x := range []struct{ now, at uint64 }{{0, 3}, {lastTick - 4, lastTick - 1}, {lastTick - 3, lastTick}, {lastTick - 2, lastTick}, {lastTick, lastTick}} {
		if a := r.Start(x.now); a != (alarm.Alarm{On: true, At: x.at}) {
			t.Errorf("Start(%d) = %+v", x.now, a)
		}
	}
}

// P9.3: what is asked again has one more try, and rings as many ticks behind now as those ask for, whenever it was to ring.
func TestAgain(t *testing.T) {
	for _, r := range good() {
		for _, now := range ticks() {
			for _, at := range []uint64{0, now, now - 1, now + 1, lastTick} {
				for _, tries := range []int{0, 1, 2, 3, 30, 31, 32, 33, 998} {
					a := alarm.Alarm{On: true, At: at, Tries: tries}
					want := alarm.Alarm{On: true, At: behind(now, delay(r, tries+1)), Tries: tries + 1}
					if b := r.Again(a, now); b != want {
						t.Fatalf("%v: Again(%+v, %d) = %+v, not %+v", r, a, now, b, want)
					}
				}
			}
		}
	}
}

// P9.3: tries are MaxTries at most, be they more already; those below 0 wait as none do.
func TestAgainTries(t *testing.T) {
	r := alarm.Rule{Base: 3, Cap: 20}
	for _, x := range []struct {
		tries, want int
		at          uint64
	}{
		{998, 999, 120}, {999, 1000, 120}, {1000, 1000, 120}, {1001, 1000, 120}, {1 << 32, 1000, 120}, {math.MaxInt - 1, 1000, 120},
		{math.MaxInt, 1000, 120}, {0, 1, 106}, {-1, 0, 103}, {-2, -1, 103}, {math.MinInt, math.MinInt + 1, 103},
	} {
		a := alarm.Alarm{On: true, At: 100, Tries: x.tries}
		want := alarm.Alarm{On: true, At: x.at, Tries: x.want}
		if b := r.Again(a, 100); b != want {
			t.Errorf("Again(%+v, 100) = %+v, not %+v", a, b, want)
		}
	}
}

// P9.3: what is off stays off, whatever else it says, and is zero when it is asked again.
func TestOff(t *testing.T) {
	for _, r := range good() {
		for _, now := range ticks() {
			for _, a := range []alarm.Alarm{{}, {At: now}, {At: 5, Tries: 7}, {Tries: -1}, {At: lastTick, Tries: 1000}} {
				if b := r.Again(a, now); b != (alarm.Alarm{}) {
					t.Errorf("%v: Again(%+v, %d) = %+v", r, a, now, b)
				}
				if r.Rings(a, now) {
					t.Errorf("%v: Rings(%+v, %d)", r, a, now)
				}
			}
		}
	}
}

// P9.3: what is On rings from its tick on, however often it rang, and whatever the rule.
func TestRings(t *testing.T) {
	for _, r := range good() {
		for _, at := range ticks() {
			for _, now := range ticks() {
				for _, tries := range []int{-1, 0, 1000, 1001} {
					a := alarm.Alarm{On: true, At: at, Tries: tries}
					if rings := r.Rings(a, now); rings != (now >= at) {
						t.Fatalf("%v: Rings(%+v, %d) = %v", r, a, now, rings)
					}
				}
			}
		}
	}
}

// P9.3: the least tick of those that are On, wherever it stands, 0 and the last one too; those that are off count for nothing.
func TestFirst(t *testing.T) {
	on := func(at uint64) alarm.Alarm { return alarm.Alarm{On: true, At: at, Tries: int(at % 3)} }
	off := func(at uint64) alarm.Alarm { return alarm.Alarm{At: at} }
	for _, x := range []struct {
		l     []alarm.Alarm
		at    uint64
		there bool
	}{
		{nil, 0, false},
		{[]alarm.Alarm{}, 0, false},
		{[]alarm.Alarm{off(0)}, 0, false},
		{[]alarm.Alarm{off(3), off(5), off(lastTick)}, 0, false},
		{[]alarm.Alarm{on(7)}, 7, true},
		{[]alarm.Alarm{on(0)}, 0, true},
		{[]alarm.Alarm{on(lastTick)}, lastTick, true},
		{[]alarm.Alarm{off(1), on(lastTick), off(2)}, lastTick, true},
		{[]alarm.Alarm{off(3), on(9), off(0), on(8), off(5)}, 8, true},
		{[]alarm.Alarm{on(9), on(4), on(4), on(6)}, 4, true},
		{[]alarm.Alarm{on(5), on(0), on(1)}, 0, true},
		{[]alarm.Alarm{on(1 << 63), on(1<<63 - 1)}, 1<<63 - 1, true},
		{[]alarm.Alarm{on(2), on(3), off(1)}, 2, true},
		{[]alarm.Alarm{on(3), off(1), on(2)}, 2, true},
	} {
		l := slices.Clone(x.l)
		if at, there := alarm.First(l); at != x.at || there != x.there {
			t.Errorf("First(%+v) = %d %v", l, at, there)
		}
		if !slices.Equal(l, x.l) {
			t.Errorf("First of %+v left %+v", x.l, l)
		}
	}
}

// P9.4: with one more try the delay never falls, is at most twice what it was, and is Cap in the end.
func TestDelaysRise(t *testing.T) {
	for _, r := range good() {
		last := r.Delay(0)
		if last != r.Base {
			t.Errorf("%v: Delay(0) = %d", r, last)
		}
		for tries := 1; tries <= 40; tries++ {
			d := r.Delay(tries)
			if d < last || d > 2*last || d > r.Cap {
				t.Errorf("%v: Delay(%d) = %d behind %d", r, tries, d, last)
			}
			last = d
		}
		if last != r.Cap {
			t.Errorf("%v: in the end %d", r, last)
		}
	}
}

// P9.4: an alarm that is asked again each time that it rings, for longer than its tries are counted: never more than Cap ticks lie between, and never less than ahead.
func TestRingsOnAndOn(t *testing.T) {
	for _, r := range good() {
		now := uint64(12345)
		a := r.Start(now)
		between := uint64(0)
		for rang := range 1100 {
			if !a.On || a.Tries != min(rang, maxTries) || a.At-now > r.Cap || a.At-now < between {
				t.Fatalf("%v: at %d, rung %d times: %+v", r, now, rang, a)
			}
			if r.Rings(a, a.At-1) || !r.Rings(a, a.At) || !r.Rings(a, now+r.Cap) {
				t.Fatalf("%v: at %d: %+v rings not at its tick", r, now, a)
			}
			between, now = a.At-now, a.At
			a = r.Again(a, now)
		}
		if between != r.Cap {
			t.Errorf("%v: in the end %d ticks lie between", r, between)
		}
	}
}

// P9.4: at the last tick there is no later one: what is asked again there rings there.
func TestRingsAtTheLast(t *testing.T) {
	r := alarm.Rule{Base: 3, Cap: 20}
	a := r.Start(lastTick - 20)
	for _, at := range []uint64{lastTick - 17, lastTick - 11, lastTick, lastTick, lastTick} {
		if !a.On || a.At != at || r.Rings(a, at-1) || !r.Rings(a, at) {
			t.Fatalf("%+v, not at %d", a, at)
		}
		a = r.Again(a, at)
	}
}
