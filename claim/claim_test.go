package claim_test

import (
	"fmt"
	"math"
	"math/rand"
	"reflect"
	"slices"
	"sort"
	"testing"

	"wagonway/api"
	"wagonway/claim"
)

// These are limits as the chapters write them out.
const (
	maxCells  = 1024
	maxClaims = 16
	greatest  = 1<<32 - 1
)

// noCells are numbers that are no cells; those behind the first two are cells if they are cut to fewer bits, or made positive.
var noCells = []int{-1, maxCells, math.MinInt, math.MaxInt, 1 << 32, 1<<32 + 7, 1 << 16, 1 << 10, -1024, -7}

func one(cell int, gen uint32) api.Claim { return api.Claim{Cell: cell, Gen: gen} }

func rec(n int, data ...byte) api.Record { return api.Record{Kind: 2, N: n, Data: data} }

// claims takes a list, which has to be taken.
func claims(t *testing.T, l ...api.Claim) *claim.Claims {
	t.Helper()
	c := &claim.Claims{}
	for _, x := range l {
		take(t, c, x.Cell, x.Gen, api.OK)
	}
	return c
}

func take(t *testing.T, c *claim.Claims, cell int, gen uint32, want api.Errno) {
	t.Helper()
	if e := c.Take(cell, gen); e != want {
		t.Errorf("Take(%d, %d) = %v, not %v", cell, gen, e, want)
	}
}

func drop(t *testing.T, c *claim.Claims, cell int, gen uint32, is bool) {
	t.Helper()
	if g, b := c.Drop(cell); g != gen || b != is {
		t.Errorf("Drop(%d) = %d %v, not %d %v", cell, g, b, gen, is)
	}
}

func gen(t *testing.T, c *claim.Claims, cell int, gen uint32, is bool) {
	t.Helper()
	if g, b := c.Gen(cell); g != gen || b != is {
		t.Errorf("Gen(%d) = %d %v, not %d %v", cell, g, b, gen, is)
	}
}

func list(t *testing.T, what string, l []api.Claim, want ...api.Claim) {
	t.Helper()
	if !slices.Equal(l, want) {
		t.Errorf("%s = %v, not %v", what, l, want)
	}
}

func record(t *testing.T, c *claim.Claims, cell int, data ...byte) {
	t.Helper()
	if r := c.Record(cell); r.Kind != 2 || r.N != cell || !slices.Equal(r.Data, data) {
		t.Errorf("Record(%d) = %v, not of %v", cell, r, data)
	}
}

func loads(t *testing.T, l []api.Record, want ...api.Claim) *claim.Claims {
	t.Helper()
	c, e := claim.Load(l)
	if e != api.OK || c == nil {
		t.Fatalf("Load(%v) = %v %v", l, c, e)
	}
	list(t, "All of Load", c.All(), want...)
	return c
}

func failsLoad(t *testing.T, l []api.Record, want api.Errno) {
	t.Helper()
	if c, e := claim.Load(l); c != nil || e != want {
		t.Errorf("Load(%v) = %v %v, not %v", l, c, e, want)
	}
}

// The chapter's table.
func TestExamples(t *testing.T) {
	var c claim.Claims
	take(t, &c, 7, 3, api.OK)
	take(t, &c, 2, 300, api.OK)
	take(t, &c, 7, 4, api.ErrClaim)
	list(t, "All", c.All(), one(2, 300), one(7, 3))
	record(t, &c, 2, 0, 0, 1, 44)
	record(t, &c, 3)
	list(t, "Of(1, 3)", c.Of(1, 3), one(7, 3))
	drop(t, &c, 7, 3, true)
	list(t, "All", c.All(), one(2, 300))
}

func TestConstants(t *testing.T) {
	for i, x := range [][2]int{
		{api.MaxCells, maxCells}, {api.MaxClaims, maxClaims}, {api.RecClaim, 2},
		{int(api.ErrNil), 1}, {int(api.ErrArg), 2}, {int(api.ErrRecord), 130}, {int(api.ErrClaim), 150}, {int(api.ErrFull), 151},
	} {
		if x[0] != x[1] {
			t.Errorf("number %d is %d, not %d", i, x[0], x[1])
		}
	}
}

// P15.1: a cell is claimed by the generation that was told, whatever it is; then it is claimed already.
func TestTake(t *testing.T) {
	c := claims(t, one(5, 0), one(0, greatest), one(maxCells-1, 1))
	for _, x := range []api.Claim{one(5, 0), one(0, greatest), one(maxCells-1, 1)} {
		gen(t, c, x.Cell, x.Gen, true)
		take(t, c, x.Cell, x.Gen, api.ErrClaim)
		take(t, c, x.Cell, x.Gen+1, api.ErrClaim)
		gen(t, c, x.Cell, x.Gen, true)
	}
	list(t, "All", c.All(), one(0, greatest), one(5, 0), one(maxCells-1, 1))
}

// P15.1: what is no cell is not claimed, full or not; the errors come in the order of the promise.
func TestTakeErrors(t *testing.T) {
	c := &claim.Claims{}
	for _, cell := range noCells {
		take(t, c, cell, 1, api.ErrArg)
	}
	list(t, "All", c.All())
	for n := range maxClaims {
		take(t, c, n*68, uint32(n), api.OK)
	}
	before := *c
	for _, cell := range noCells {
		take(t, c, cell, 1, api.ErrArg)
	}
	for cell := range maxCells {
		if cell%68 == 0 && cell/68 < maxClaims {
			take(t, c, cell, 1, api.ErrClaim)
		} else {
			take(t, c, cell, 1, api.ErrFull)
		}
	}
	if !reflect.DeepEqual(before, *c) {
		t.Errorf("Takes that failed made %v of %v", *c, before)
	}
	drop(t, c, 136, 2, true)
	take(t, c, 136, 9, api.OK)
	take(t, c, 1, 1, api.ErrFull)
	drop(t, c, 136, 9, true)
	take(t, c, maxCells-1, 8, api.OK)
	gen(t, c, maxCells-1, 8, true)
	gen(t, c, 136, 0, false)
}

// P15.1: Drop tells the generation once; Gen tells it, and it stays.
func TestDropAndGen(t *testing.T) {
	c := claims(t, one(9, 4), one(3, greatest), one(6, 0))
	for range 3 {
		gen(t, c, 3, greatest, true)
		gen(t, c, 6, 0, true)
		gen(t, c, 9, 4, true)
	}
	for _, cell := range append([]int{0, 2, 4, 5, 7, 8, 10, maxCells - 1}, noCells...) {
		gen(t, c, cell, 0, false)
		drop(t, c, cell, 0, false)
	}
	list(t, "All", c.All(), one(3, greatest), one(6, 0), one(9, 4))
	drop(t, c, 6, 0, true)
	drop(t, c, 6, 0, false)
	gen(t, c, 6, 0, false)
	list(t, "All", c.All(), one(3, greatest), one(9, 4))
	drop(t, c, 9, 4, true)
	drop(t, c, 3, greatest, true)
	drop(t, c, 3, 0, false)
	list(t, "All", c.All())
}

// P15.2: All rises by cells, however they were taken.
func TestAll(t *testing.T) {
	for _, order := range [][]int{{1, 2, 3}, {3, 2, 1}, {2, 3, 1}, {2, 1, 3}, {3, 1, 2}, {1, 3, 2}} {
		c := &claim.Claims{}
		for _, cell := range order {
			take(t, c, cell*100, uint32(cell), api.OK)
		}
		list(t, "All", c.All(), one(100, 1), one(200, 2), one(300, 3))
	}
}

// P15.2: Of tells those of a home, rising; nothing of homes and numbers of robots that have none.
func TestOf(t *testing.T) {
	c := claims(t, one(12, 1), one(3, 2), one(7, 3), one(1023, 4), one(0, 5))
	list(t, "Of(0, 3)", c.Of(0, 3), one(0, 5), one(3, 2), one(12, 1), one(1023, 4))
	list(t, "Of(1, 3)", c.Of(1, 3), one(7, 3))
	list(t, "Of(2, 3)", c.Of(2, 3))
	list(t, "Of(0, 1)", c.Of(0, 1), c.All()...)
	list(t, "Of(63, 64)", c.Of(63, 64), one(1023, 4))
	list(t, "Of(7, 1000)", c.Of(7, 1000), one(7, 3))
	list(t, "Of(23, 1000)", c.Of(23, 1000), one(1023, 4))
	list(t, "Of(1023, MaxInt)", c.Of(1023, math.MaxInt), one(1023, 4))
	for _, x := range [][2]int{
		{0, 0}, {1, 0}, {0, -1}, {0, -3}, {1, -3}, {0, math.MinInt}, {3, math.MinInt}, // robots below 1
		{-1, 3}, {-3, 3}, {3, 3}, {4, 3}, {7, 3}, {math.MinInt, 3}, {math.MaxInt, 3}, {1 << 32, 3}, // no robot of so many
	} {
		list(t, fmt.Sprintf("Of(%d, %d)", x[0], x[1]), c.Of(x[0], x[1]))
	}
	list(t, "All", c.All(), one(0, 5), one(3, 2), one(7, 3), one(12, 1), one(1023, 4))
}

// P15.2: the iterator that tells a home's claims may be left behind any of them.
func TestTold(t *testing.T) {
	c := claims(t, one(2, 1), one(4, 2), one(5, 3), one(6, 4))
	for many := 1; many <= 3; many++ {
		var l []api.Claim
		for x := range c.Told(0, 2) {
			if l = append(l, x); len(l) == many {
				break
			}
		}
		list(t, "told", l, []api.Claim{one(2, 1), one(4, 2), one(6, 4)}[:many]...)
	}
}

// P15.2: Same holds lists against each other, one by one; nil and empty are the same.
func TestSame(t *testing.T) {
	a := []api.Claim{one(1, 2), one(3, 4)}
	for _, x := range []struct {
		a, b []api.Claim
		want bool
	}{
		{nil, nil, true}, {nil, []api.Claim{}, true}, {[]api.Claim{}, nil, true},
		{a, []api.Claim{one(1, 2), one(3, 4)}, true}, {a, a, true},
		{a, nil, false}, {nil, a, false}, {a, a[:1], false}, {a[:1], a, false}, {a, a[1:], false},
		{a, []api.Claim{one(1, 2), one(3, 5)}, false}, {a, []api.Claim{one(2, 2), one(3, 4)}, false},
		{a, []api.Claim{one(3, 4), one(1, 2)}, false},
		{a, []api.Claim{one(1, 2), one(3, 4), one(0, 0)}, false},
		{[]api.Claim{one(-1, 2), one(-1, 2)}, []api.Claim{one(-1, 2), one(-1, 2)}, true},
	} {
		if claim.Same(x.a, x.b) != x.want {
			t.Errorf("Same(%v, %v) is not %v", x.a, x.b, x.want)
		}
	}
}

// P15.3: a record has its generation in four bytes, the highest first, if its cell is claimed; one by generation 0 has them too.
func TestRecord(t *testing.T) {
	c := claims(t, one(0, 0), one(1, 1), one(2, 0x01020304), one(3, greatest), one(1023, 0x80000000))
	record(t, c, 0, 0, 0, 0, 0)
	record(t, c, 1, 0, 0, 0, 1)
	record(t, c, 2, 1, 2, 3, 4)
	record(t, c, 3, 255, 255, 255, 255)
	record(t, c, 1023, 128, 0, 0, 0)
	for _, cell := range append([]int{4, 1022}, noCells...) {
		record(t, c, cell)
	}
	drop(t, c, 2, 0x01020304, true)
	record(t, c, 2)
}

// P15.3: Load takes the records of claims, in any order, and lets others be.
func TestLoad(t *testing.T) {
	loads(t, nil)
	loads(t, []api.Record{})
	c := loads(t, []api.Record{rec(9, 1, 2, 3, 4), rec(1023, 255, 255, 255, 255), rec(4), rec(0, 0, 0, 0, 0), rec(5)}, one(0, 0), one(9, 0x01020304), one(1023, greatest))
	take(t, c, 4, 1, api.OK)
	take(t, c, 9, 1, api.ErrClaim)
	list(t, "All", c.All(), one(0, 0), one(4, 1), one(9, 0x01020304), one(1023, greatest))
	loads(t, []api.Record{rec(4, 0, 0, 0, 1), {Kind: 1, N: 4, Data: []byte{1, 2, 3, 4}}, {Kind: 3, N: 4, Data: []byte{0, 0, 0, 0, 1}}, {Kind: 0, N: 7, Data: []byte{1, 2, 3, 4}}, {Kind: -2, N: 8}, {Kind: 3, N: 1024, Data: []byte{7}}, {Kind: 1, N: -1}, {Kind: math.MaxInt, N: math.MinInt}, {Kind: 1<<32 + 2, N: 9, Data: []byte{1, 2, 3, 4}}}, one(4, 1))
}

// P15.3: records that are none are ErrRecord, wherever they stand, and told ahead of ErrFull.
func TestLoadErrRecord(t *testing.T) {
	var full []api.Record
	for n := range maxClaims + 1 {
		full = append(full, rec(500+n, 0, 0, 0, 1))
	}
	bad := [][]api.Record{
		{rec(1, 1)}, {rec(1, 1, 2)}, {rec(1, 1, 2, 3)}, {rec(1, 1, 2, 3, 4, 5)}, {rec(1, make([]byte, 8)...)}, {rec(1, make([]byte, 260)...)},
		{rec(1), rec(1)}, {rec(1, 1, 2, 3, 4), rec(1)}, {rec(1), rec(1, 1, 2, 3, 4)}, {rec(1, 1, 2, 3, 4), rec(1, 1, 2, 3, 4)}, {rec(1, 1, 2, 3, 4), rec(2), rec(1, 1, 2, 3, 5)},
		{rec(0), rec(0)}, {rec(maxCells - 1), rec(maxCells - 1)},
	}
	for _, cell := range noCells {
		bad = append(bad, []api.Record{rec(cell)}, []api.Record{rec(cell, 0, 0, 0, 1)})
	}
	for _, l := range bad {
		failsLoad(t, l, api.ErrRecord)
		failsLoad(t, append([]api.Record{rec(7, 0, 0, 0, 1), {Kind: 1, N: 1}}, l...), api.ErrRecord)
		failsLoad(t, append(slices.Clone(full), l...), api.ErrRecord)
		failsLoad(t, append(slices.Clone(l), full...), api.ErrRecord)
	}
	failsLoad(t, append(slices.Clone(full), full[maxClaims]), api.ErrRecord) // two of one cell, the one too many
	failsLoad(t, append(slices.Clone(full), rec(600, 0, 0, 0, 1), rec(600)), api.ErrRecord)
}

// P15.3: as many as MaxClaims may have Data; of cells that are not claimed there may be any number.
func TestLoadErrFull(t *testing.T) {
	var l []api.Record
	var want []api.Claim
	for cell := range maxCells {
		if cell >= 100 && cell < 100+maxClaims {
			l = append(l, rec(cell, 0, 0, 0, byte(cell)))
			want = append(want, one(cell, uint32(cell)))
		} else {
			l = append(l, rec(cell))
		}
	}
	c := loads(t, l, want...)
	take(t, c, 1, 1, api.ErrFull)
	for _, cell := range []int{0, 99, 116, 1023} {
		more := slices.Clone(l)
		more[cell] = rec(cell, 0, 0, 0, 0)
		failsLoad(t, more, api.ErrFull)
	}
}

// P15.4: what is handed in is only read, and not kept.
func TestHandedIn(t *testing.T) {
	l := []api.Record{rec(9, 1, 2, 3, 4), rec(2, 0, 0, 0, 7), rec(4, []byte{}...)}
	was := []api.Record{rec(9, 1, 2, 3, 4), rec(2, 0, 0, 0, 7), rec(4, []byte{}...)}
	c := loads(t, l, one(2, 7), one(9, 0x01020304))
	if !reflect.DeepEqual(l, was) {
		t.Errorf("Load made %v of %v", l, was)
	}
	for i := range l {
		for j := range l[i].Data {
			l[i].Data[j] = 99
		}
		l[i].N = 500
	}
	list(t, "All", c.All(), one(2, 7), one(9, 0x01020304))
	a, b := []api.Claim{one(3, 1), one(1, 1)}, []api.Claim{one(1, 1), one(3, 1)}
	claim.Same(a, b)
	list(t, "a", a, one(3, 1), one(1, 1))
	list(t, "b", b, one(1, 1), one(3, 1))
}

// P15.4: what is answered is new memory, also in what it has room for.
func TestNewMemory(t *testing.T) {
	c := claims(t, one(2, 7), one(9, 8))
	for _, l := range [][]api.Claim{c.All(), c.Of(0, 1), c.All()[:1], c.Of(1, 2)[:1]} {
		for i := range l {
			l[i] = one(77, 77)
		}
		l = append(l, one(88, 88))
		if cap(l) > 2 {
			l[:3][2] = one(99, 99)
		}
	}
	r := c.Record(2)
	for i := range r.Data {
		r.Data[i] = 99
	}
	list(t, "All", c.All(), one(2, 7), one(9, 8))
	take(t, c, 4, 1, api.OK)
	list(t, "All", c.All(), one(2, 7), one(4, 1), one(9, 8))
	record(t, c, 2, 0, 0, 0, 7)
	a := c.All()
	drop(t, c, 2, 7, true)
	list(t, "All of before", a, one(2, 7), one(4, 1), one(9, 8))
}

// P15.1, P15.2, P15.3: calls on none, and on claims that nobody made, which are none.
func TestNone(t *testing.T) {
	var none *claim.Claims
	for _, cell := range append([]int{0, 1, maxCells - 1}, noCells...) {
		take(t, none, cell, 1, api.ErrNil)
		for _, c := range []*claim.Claims{none, {}} {
			drop(t, c, cell, 0, false)
			gen(t, c, cell, 0, false)
			record(t, c, cell)
		}
	}
	for _, c := range []*claim.Claims{none, {}} {
		list(t, "All", c.All())
		for _, robots := range []int{-1, 0, 1, 2} {
			list(t, "Of", c.Of(0, robots))
		}
	}
	take(t, &claim.Claims{}, 3, 1, api.OK)
}

// P15.5: what was taken, and dropped, leaves no trace.
func TestNoTrace(t *testing.T) {
	for _, kept := range [][]api.Claim{nil, {one(5, 1)}, {one(5, 1), one(9, 2), one(700, 0)}} {
		for _, x := range []api.Claim{one(0, 0), one(2, greatest), one(6, 3), one(1023, 4)} {
			c, other := claims(t, kept...), claims(t, kept...)
			take(t, c, x.Cell, x.Gen, api.OK)
			drop(t, c, x.Cell, x.Gen, true)
			if !reflect.DeepEqual(c, other) {
				t.Errorf("%v taken and dropped makes %v of %v", x, c, other)
			}
		}
	}
}

// model is what is claimed, in the chapter's words alone.
type model map[int]uint32

func (m model) all(home, robots int) []api.Claim {
	var l []api.Claim
	for cell, g := range m {
		if cell%robots == home {
			l = append(l, one(cell, g))
		}
	}
	sort.Slice(l, func(i, j int) bool { return l[i].Cell < l[j].Cell })
	return l
}

func (m model) take(cell int, gen uint32) api.Errno {
	if cell < 0 || cell > 1023 {
		return 2
	}
	if _, is := m[cell]; is {
		return 150
	}
	if len(m) == 16 {
		return 151
	}
	m[cell] = gen
	return 0
}

// P15.1 to P15.5: drawn runs against the model; at each step the records of all cells that were ever claimed load to the claims, and the claims of all homes are together all.
func TestDrawn(t *testing.T) {
	for seed := range int64(40) {
		draw := rand.New(rand.NewSource(seed))
		cells := []int{20, 40, maxCells}[seed%3]
		c, m, ever := &claim.Claims{}, model{}, map[int]bool{}
		for range 300 {
			cell := draw.Intn(cells+4) - 2
			if want, is := m[cell]; draw.Intn(5) < 2 {
				drop(t, c, cell, want, is)
				delete(m, cell)
			} else {
				g := draw.Uint32() >> draw.Intn(32)
				take(t, c, cell, g, m.take(cell, g))
			}
			if _, is := m[cell]; is {
				ever[cell] = true
			}
			holds(t, draw, c, m, ever)
		}
	}
}

func holds(t *testing.T, draw *rand.Rand, c *claim.Claims, m model, ever map[int]bool) {
	t.Helper()
	list(t, "All", c.All(), m.all(0, 1)...)
	for cell, want := range m {
		gen(t, c, cell, want, true)
	}
	robots := 1 + draw.Intn(64)
	many := 0
	for home := range robots {
		l := c.Of(home, robots)
		list(t, "Of", l, m.all(home, robots)...)
		many += len(l)
	}
	if many != len(m) {
		t.Errorf("the homes' claims are %d, of %d", many, len(m))
	}
	var l []api.Record
	for cell := range ever {
		l = append(l, c.Record(cell))
	}
	draw.Shuffle(len(l), func(i, j int) { l[i], l[j] = l[j], l[i] })
	if d := loads(t, l, m.all(0, 1)...); !reflect.DeepEqual(c, d) || !claim.Same(d.All(), c.All()) {
		t.Errorf("records load to %v, not to %v", d, c)
	}
}
