package hier_test

import (
	"math"
	"math/rand"
	"slices"
	"strings"
	"sync"
	"testing"

	"wagonway/api"
	"wagonway/grid"
	"wagonway/hier"
	"wagonway/route"
	"wagonway/segment"
)

const (
	marks = ".#^>v<"

	rungs = "...../#.#.#/...../"                  // the chapter's example
	ring  = ".../.#./.../"                        // one segment, of no doors
	turn  = ">>v/^#v/^<</"                        // a ring that goes round one way
	tee   = "...../##.##/##.##/"                  // a junction and three ends
	loop  = "...#/.#../...#/"                     // a corridor whose both ends are joined with one junction
	knot  = "....../.##.#./....../.##.#./....../" // junctions of three and of four
	apart = "..#../..#../"                        // two rings
	beat  = ".>.<./"                              // a corridor that is entered from both ends, and left by none
)

// parse reads a map as the chapter's examples write it: / for a byte 10.
func parse(t *testing.T, s string) *grid.Map {
	t.Helper()
	m, line, column, e := grid.Parse(strings.ReplaceAll(s, "/", "\n"))
	if e != api.OK {
		t.Fatalf("Parse(%q) = %d:%d %v", s, line, column, e)
	}
	return m
}

func plan(t *testing.T, s string) *segment.Plan {
	t.Helper()
	p, e := segment.Of(parse(t, s))
	if e != api.OK {
		t.Fatalf("Of(%q) = %v", s, e)
	}
	return p
}

// every tells all maps' texts of so many rows and columns with some cells free, of the marks alone.
func every(rows, cols int, marks string) []string {
	var texts []string
	cells := make([]byte, rows*cols)
	var fill func(i int)
	fill = func(i int) {
		if i < len(cells) {
			for k := range len(marks) {
				cells[i] = marks[k]
				fill(i + 1)
			}
			return
		}
		var b strings.Builder
		for row := range slices.Chunk(cells, cols) {
			b.Write(row)
			b.WriteByte('/')
		}
		if strings.Trim(b.String(), "#/") != "" {
			texts = append(texts, b.String())
		}
	}
	fill(0)
	return texts
}

// drawn is a map's text out of draws: so many in a hundred of its cells are walls, so many one-way.
func drawn(r *rand.Rand, rows, cols, walls, oneWay int) string {
	for {
		var b strings.Builder
		for range rows {
			for range cols {
				switch n := r.Intn(100); {
				case n < walls:
					b.WriteByte('#')
				case n < walls+oneWay:
					b.WriteByte(marks[2+r.Intn(4)])
				default:
					b.WriteByte('.')
				}
			}
			b.WriteByte('/')
		}
		if strings.Trim(b.String(), "#/") != "" {
			return b.String()
		}
	}
}

// winding is a map with long corridors: rows of which each second one is walls, but for some of its cells.
func winding(r *rand.Rand, rows, cols int) string {
	var b strings.Builder
	for row := range rows {
		line := []byte(strings.Repeat(".", cols))
		if row%2 == 1 {
			line = []byte(strings.Repeat("#", cols))
			for range 1 + r.Intn(3) {
				line[r.Intn(cols)] = "...^v"[r.Intn(5)]
			}
		}
		b.Write(line)
		b.WriteByte('/')
	}
	return b.String()
}

// drawnTexts are maps of many sizes up to so many rows and columns, with many walls and few, with one-way cells and without.
func drawnTexts(seed int64, most int) []string {
	r := rand.New(rand.NewSource(seed))
	texts := []string{"./", ">./", "<./", "><./", rungs, ring, turn, tee, loop, knot, apart, beat}
	for _, walls := range []int{0, 15, 30, 45} {
		for _, oneWay := range []int{0, 8, 25} {
			for side := 2; side <= most; side += 3 {
				texts = append(texts, drawn(r, side, most+2-side, walls, oneWay), drawn(r, side, side, walls, oneWay))
			}
		}
	}
	for side := 3; side <= most; side++ {
		texts = append(texts, winding(r, side, most), winding(r, most, side))
	}
	return texts
}

// drawnBans are at most so many cells, walls among them, some of them twice, and numbers that are no cells.
func drawnBans(r *rand.Rand, m *grid.Map, most int) []int {
	bans := make([]int, r.Intn(1+most))
	for i := range bans {
		bans[i] = r.Intn(m.Cells()+4) - 2
	}
	return bans
}

// distances are those from a cell to each one, -1 for none: by the words, shorter ones first.
func distances(m *grid.Map, from int, bans []int) []int {
	dist := slices.Repeat([]int{-1}, m.Cells())
	dist[from] = 0
	for front := []int{from}; len(front) > 0; front = front[1:] {
		for _, next := range m.Next(front[0]) {
			if dist[next] < 0 && !slices.Contains(bans, next) {
				dist[next] = dist[front[0]] + 1
				front = append(front, next)
			}
		}
	}
	return dist
}

// isRoute says by the words whether cells are one.
func isRoute(m *grid.Map, cells, bans []int) bool {
	for i := 1; i < len(cells); i++ {
		if !m.Edge(cells[i-1], cells[i]) || slices.Contains(bans, cells[i]) {
			return false
		}
	}
	return len(cells) > 0
}

// expectRoute holds the answers of one pair of ends against the words (P6.1), where the distance is known: -1 if there is no route.
func expectRoute(t *testing.T, p *segment.Plan, from, to int, bans []int, dist int) []int {
	t.Helper()
	m := p.Map()
	far, e := hier.Dist(p, from, to, bans)
	cells, e2 := hier.Route(p, from, to, bans)
	if e != e2 {
		t.Fatalf("%q: %d to %d with %v banned: Dist %v, Route %v", m.Text(), from, to, bans, e, e2)
	}
	if dist < 0 {
		if e != api.ErrNoPath || far != 0 || len(cells) > 0 {
			t.Fatalf("%q: %d to %d with %v banned: %v %d %v, and there is none", m.Text(), from, to, bans, e, far, cells)
		}
		return nil
	}
	if e != api.OK || far != dist {
		t.Fatalf("%q: Dist(%d, %d, %v) = %d %v, not %d", m.Text(), from, to, bans, far, e, dist)
	}
	if len(cells) != dist+1 || cells[0] != from || cells[dist] != to || !isRoute(m, cells, bans) {
		t.Fatalf("%q: Route(%d, %d, %v) = %v, of %d", m.Text(), from, to, bans, cells, dist)
	}
	return cells
}

// expectAll holds some ends' answers against the words, all those from a cell.
func expectAll(t *testing.T, p *segment.Plan, from int, bans []int) {
	t.Helper()
	dist := distances(p.Map(), from, bans)
	for _, to := range p.Map().All() {
		cells := expectRoute(t, p, from, to, bans, dist[to])
		if cells != nil && hier.Check(p, cells, bans) != api.OK {
			t.Fatalf("%q: Check(%v, %v) = %v", p.Map().Text(), cells, bans, hier.Check(p, cells, bans))
		}
	}
}

// The chapter's examples.
func TestExamples(t *testing.T) {
	p := plan(t, rungs)
	left, right := []int{0, 1, 6, 11, 12, 13, 14}, []int{0, 1, 2, 3, 8, 13, 14}
	if n, e := hier.Dist(p, 0, 14, nil); n != 6 || e != api.OK {
		t.Errorf("Dist(0, 14) = %d %v", n, e)
	}
	if l, e := hier.Route(p, 0, 14, nil); e != api.OK || !slices.Equal(l, left) && !slices.Equal(l, right) {
		t.Errorf("Route(0, 14) = %v %v", l, e)
	}
	for _, x := range []struct {
		to     int
		banned []int
		e      api.Errno
	}{{14, []int{1}, api.ErrNoPath}, {14, []int{0, 6, 8}, api.ErrNoPath}, {5, nil, api.ErrArg}} {
		if l, e := hier.Route(p, 0, x.to, x.banned); e != x.e || len(l) > 0 {
			t.Errorf("Route(0, %d, %v) = %v %v, not %v", x.to, x.banned, l, e, x.e)
		}
	}
}

// P6.1: all ends on all maps of a few cells, with one cell banned after another.
func TestEverySmallMap(t *testing.T) {
	for _, texts := range [][]string{every(1, 1, marks), every(1, 4, ".#><"), every(4, 1, ".#^v"), every(2, 2, marks), every(3, 3, ".#"), every(2, 3, ".#>^")} {
		for _, s := range texts {
			p := plan(t, s)
			for _, from := range p.Map().All() {
				expectAll(t, p, from, nil)
				for ban := range p.Map().Cells() {
					expectAll(t, p, from, []int{ban})
				}
			}
		}
	}
}

// P6.1: all ends from some cells on drawn maps, with drawn cells banned.
func TestDrawnMaps(t *testing.T) {
	r := rand.New(rand.NewSource(1))
	for _, s := range drawnTexts(1, 9) {
		p := plan(t, s)
		free := p.Map().All()
		for range 8 {
			from := free[r.Intn(len(free))]
			expectAll(t, p, from, nil)
			expectAll(t, p, from, drawnBans(r, p.Map(), p.Map().Cells()/4))
		}
	}
}

// P6.1: some ends on maps of the greatest size.
func TestGreatMaps(t *testing.T) {
	r := rand.New(rand.NewSource(2))
	texts := []string{strings.Repeat(strings.Repeat(".", api.MaxSide)+"/", api.MaxSide)}
	for _, walls := range []int{5, 30, 40} {
		texts = append(texts, drawn(r, api.MaxSide, api.MaxSide, walls, 5), winding(r, api.MaxSide, api.MaxSide))
	}
	for _, s := range texts {
		p := plan(t, s)
		free := p.Map().All()
		for range 8 {
			from, bans := free[r.Intn(len(free))], drawnBans(r, p.Map(), api.MaxBans)
			dist := distances(p.Map(), from, bans)
			for range 8 {
				to := free[r.Intn(len(free))]
				expectRoute(t, p, from, to, bans, dist[to])
			}
		}
	}
}

// P0.4: a route is told for the same ends as by package route, and is of the same length; each takes the other's for one.
func TestLikeRoute(t *testing.T) {
	r := rand.New(rand.NewSource(3))
	for _, s := range drawnTexts(3, 9) {
		p := plan(t, s)
		m := p.Map()
		bans := drawnBans(r, m, m.Cells()/6)
		for from := range m.Cells() {
			to := r.Intn(m.Cells())
			cells, e := hier.Route(p, from, to, bans)
			other, e2 := route.Find(m, from, to, bans, math.MaxInt)
			if e != e2 || len(cells) != len(other) {
				t.Fatalf("%q: %d to %d with %v banned: %v %v, and by cells %v %v", m.Text(), from, to, bans, cells, e, other, e2)
			}
			if e == api.OK && (route.Check(m, cells, bans) != api.OK || hier.Check(p, other, bans) != api.OK) {
				t.Fatalf("%q: %v and %v, with %v banned", m.Text(), cells, other, bans)
			}
		}
	}
}

// P6.1: what a ban does, and what it does not.
func TestBans(t *testing.T) {
	for _, x := range []struct {
		text     string
		from, to int
		banned   []int
		far      int // -1: there is no route
	}{
		{rungs, 0, 14, []int{0}, 6},           // the first cell may be banned
		{rungs, 0, 14, []int{14}, -1},         // the last one may not
		{rungs, 0, 0, []int{0}, 0},            // unless it is the first one
		{rungs, 0, 14, []int{6}, 6},           // by 8
		{rungs, 0, 14, []int{6, 8}, -1},       // both rungs
		{rungs, 0, 14, []int{5, 7, 5}, 6},     // walls make no difference
		{rungs, 2, 12, []int{1}, 4},           // a corridor's cell, of the junction beside it
		{rungs, 2, 12, []int{1, 3}, -1},       // both of a corridor's doors
		{ring, 0, 8, []int{1}, 4},             // round the other way
		{ring, 0, 1, []int{2}, 1},             // the short way
		{ring, 0, 2, []int{1}, 6},             // the long way
		{ring, 0, 8, []int{1, 3}, -1},         // none of the two
		{ring, 3, 5, []int{3, 0}, 4},          // from a banned one
		{loop, 2, 10, nil, 2},                 // out of the corridor and into it again
		{loop, 2, 10, []int{6}, 6},            // within it
		{loop, 2, 10, []int{6, 4}, -1},        // neither
		{loop, 1, 9, []int{4}, 4},             // out and in, from within
		{loop, 4, 7, []int{9, 2}, -1},         // both ends
		{loop, 4, 7, []int{9}, 5},             // by one end
		{tee, 0, 12, []int{3, 4}, 4},          // what no route has
		{tee, 0, 12, []int{7}, -1},            // the only way
		{"...../", 0, 4, []int{2}, -1},        // within a corridor
		{"...../", 2, 4, []int{2}, 2},         // that is begun within
		{"...../", 2, 3, []int{1}, 1},         // behind it
		{"..../", 3, 0, []int{1}, -1},         // against the order
		{apart, 0, 3, nil, -1},                // no doors at all
		{apart, 3, 9, []int{4}, 2},            // in the second one
		{"./", 0, 0, []int{0, -1, 1, 0}, 0},   // nothing but the cell
		{knot, 12, 17, []int{13, 14, 16}, 9},  // round by the rows above or below
		{turn, 0, 3, nil, 7},                  // round, with the arrows
		{turn, 0, 3, []int{8}, -1},            // not against them
		{turn, 3, 0, []int{1, 2, 5, 8, 7}, 1}, // nor need it
		{beat, 0, 3, nil, -1},                 // into the corridor, not through it
		{beat, 2, 0, nil, -1},                 // nor out of it
		{beat, 4, 2, nil, 2},
		{"><./", 0, 1, nil, -1}, // side by side without an edge
		{"><./", 2, 1, nil, 1},
		{rungs, 0, 14, []int{math.MinInt, -1, 15, 1024, math.MaxInt}, 6}, // no cells
	} {
		if cells := expectRoute(t, plan(t, x.text), x.from, x.to, x.banned, x.far); x.from == x.to && !slices.Equal(cells, []int{x.from}) {
			t.Errorf("%q: from %d to itself: %v", x.text, x.from, cells)
		}
	}
}

// P6.1: the errors, of which that of an argument comes first; nothing stands beside them.
func TestErrors(t *testing.T) {
	made := plan(t, apart)
	for _, x := range []struct {
		p        *segment.Plan
		from, to int
		banned   []int
		e        api.Errno
	}{
		{nil, 0, 0, nil, api.ErrArg},
		{nil, 0, 3, []int{3}, api.ErrArg},
		{&segment.Plan{}, 0, 0, nil, api.ErrArg},
		{&segment.Plan{}, 0, 1, nil, api.ErrArg},
		{made, 2, 0, nil, api.ErrArg},
		{made, 0, 2, nil, api.ErrArg},
		{made, 2, 2, nil, api.ErrArg},
		{made, -1, 0, nil, api.ErrArg},
		{made, 0, -1, nil, api.ErrArg},
		{made, 0, 10, nil, api.ErrArg},
		{made, 10, 0, nil, api.ErrArg},
		{made, math.MinInt, math.MaxInt, nil, api.ErrArg},
		{made, 0, 7, []int{2}, api.ErrArg},
		{made, 0, 3, nil, api.ErrNoPath},
		{made, 0, 6, []int{6}, api.ErrNoPath},
		{made, 0, 6, []int{1, 5}, api.ErrNoPath},
	} {
		if l, e := hier.Route(x.p, x.from, x.to, x.banned); len(l) > 0 || e != x.e {
			t.Errorf("Route(%d, %d, %v) = %v %v, not %v", x.from, x.to, x.banned, l, e, x.e)
		}
		if n, e := hier.Dist(x.p, x.from, x.to, x.banned); n != 0 || e != x.e {
			t.Errorf("Dist(%d, %d, %v) = %d %v, not %v", x.from, x.to, x.banned, n, e, x.e)
		}
	}
}

// P6.2: a route's segments, each once where cells that follow one another are of it, and again where it is come back to.
func TestSegments(t *testing.T) {
	for _, x := range []struct {
		text        string
		cells, want []int
	}{
		{tee, []int{0, 1, 2, 7, 12}, []int{0, 1, 2, 5, 6}},
		{tee, []int{2}, []int{2}},
		{tee, []int{2, 2, 2}, []int{2}},
		{tee, nil, nil},
		{loop, []int{1, 2, 6, 10, 9}, []int{0, 1, 0}},
		{loop, []int{2, 1, 0, 4, 8, 9, 10}, []int{0}},
		{loop, []int{7, 6, 2, 1}, []int{2, 1, 0}},
		{ring, []int{0, 1, 2, 5, 8, 7, 6, 3, 0}, []int{0}},
		{apart, []int{0, 1, 3, 4, 9, 5}, []int{0, 1, 0}}, // it need not be a route
		{tee, []int{0, 1, 6, 7}, nil},                    // a wall
		{tee, []int{5}, nil},
		{tee, []int{0, -1}, nil},
		{tee, []int{15, 0}, nil},
		{tee, []int{math.MinInt}, nil},
		{tee, []int{math.MaxInt}, nil},
	} {
		if l := hier.Segments(plan(t, x.text), x.cells); !slices.Equal(l, x.want) {
			t.Errorf("%q: Segments(%v) = %v, not %v", x.text, x.cells, l, x.want)
		}
	}
	for _, p := range []*segment.Plan{nil, {}} {
		for _, cells := range [][]int{nil, {0}, {-1}, {0, 1}} {
			if l := hier.Segments(p, cells); len(l) > 0 {
				t.Errorf("of no plan: Segments(%v) = %v", cells, l)
			}
		}
	}
}

// P6.2: Segments of drawn routes, by the words; from each to the next one there is a door.
func TestSegmentsOfRoutes(t *testing.T) {
	r := rand.New(rand.NewSource(4))
	for _, s := range drawnTexts(4, 9) {
		p := plan(t, s)
		free := p.Map().All()
		for range 20 {
			cells, _ := hier.Route(p, free[r.Intn(len(free))], free[r.Intn(len(free))], nil)
			var want []int
			for _, cell := range cells {
				if of := p.Segment(cell); len(want) == 0 || want[len(want)-1] != of {
					want = append(want, of)
				}
			}
			got := hier.Segments(p, cells)
			if !slices.Equal(got, want) {
				t.Fatalf("%q: Segments(%v) = %v, not %v", p.Map().Text(), cells, got, want)
			}
			for i := 1; i < len(got); i++ {
				if len(p.Doors(got[i-1], got[i])) == 0 {
					t.Fatalf("%q: no door from %d to %d, of %v", p.Map().Text(), got[i-1], got[i], got)
				}
			}
		}
	}
}

// P6.2: Check asks for free cells first, then for edges and bans.
func TestCheck(t *testing.T) {
	made := plan(t, rungs)
	for _, x := range []struct {
		p             *segment.Plan
		cells, banned []int
		e             api.Errno
	}{
		{made, []int{0, 1, 6, 11}, nil, api.OK},
		{made, []int{0, 1, 6, 11}, []int{0}, api.OK}, // the first one may be banned
		{made, []int{0, 1, 6, 11}, []int{2, 5, -1, 15, math.MaxInt}, api.OK},
		{made, []int{0}, []int{0}, api.OK},
		{made, []int{0, 1, 0, 1, 2}, nil, api.OK}, // it need not be a shortest one
		{made, []int{0, 1, 6, 11}, []int{11}, api.ErrNoPath},
		{made, []int{0, 1, 6, 11}, []int{6}, api.ErrNoPath},
		{made, []int{0, 1, 0}, []int{0}, api.ErrNoPath}, // it is stepped into
		{made, []int{0, 2}, nil, api.ErrNoPath},
		{made, []int{0, 0}, nil, api.ErrNoPath},
		{made, []int{0, 10}, nil, api.ErrNoPath},
		{made, []int{4, 10}, nil, api.ErrNoPath},
		{made, []int{0, 1, 6, 12}, nil, api.ErrNoPath},
		{made, nil, nil, api.ErrArg},
		{made, []int{}, []int{0}, api.ErrArg},
		{made, []int{5}, nil, api.ErrArg},
		{made, []int{0, 5, 10}, nil, api.ErrArg}, // within it, too
		{made, []int{5, 0}, nil, api.ErrArg},
		{made, []int{0, 1, 2, 7}, nil, api.ErrArg},
		{made, []int{0, 2, 7}, []int{2}, api.ErrArg}, // ahead of the other error
		{made, []int{0, -1}, nil, api.ErrArg},
		{made, []int{14, 15}, nil, api.ErrArg},
		{made, []int{math.MinInt, math.MaxInt}, nil, api.ErrArg},
		{nil, []int{0}, nil, api.ErrArg},
		{nil, nil, nil, api.ErrArg},
		{&segment.Plan{}, []int{0, 1}, nil, api.ErrArg},
		{&segment.Plan{}, nil, []int{0}, api.ErrArg},
		{plan(t, ".>./"), []int{0, 1, 2}, nil, api.OK},
		{plan(t, ".>./"), []int{2, 1}, nil, api.ErrNoPath}, // against the way
		{plan(t, ".>./"), []int{1, 0}, nil, api.ErrNoPath},
	} {
		if e := hier.Check(x.p, x.cells, x.banned); e != x.e {
			t.Errorf("Check(%v, %v) = %v, not %v", x.cells, x.banned, e, x.e)
		}
	}
}

// P6.3: what is handed in stays as it is; what is answered may be written to and added to, and shares nothing with it or with another answer.
func TestMemory(t *testing.T) {
	for _, x := range []struct {
		text     string
		from, to int
	}{{loop, 4, 7}, {rungs, 0, 14}, {ring, 0, 2}, {ring, 0, 0}} {
		p := plan(t, x.text)
		text, cells := p.Map().Text(), p.Cells(0)
		whole := []int{99, 5, -1, 2048, 3}
		banned := whole[1:3]
		first, _ := hier.Route(p, x.from, x.to, banned)
		want := slices.Clone(first)
		segments := hier.Segments(p, first)
		wantSegments := slices.Clone(segments)
		if hier.Check(p, first, banned) != api.OK || !slices.Equal(first, want) {
			t.Errorf("%q: %v turned to %v", x.text, want, first)
		}
		for _, list := range [][]int{first[:cap(first)], segments[:cap(segments)]} {
			for i := range list {
				list[i] = -77
			}
		}
		again, e := hier.Route(p, x.from, x.to, banned)
		if e != api.OK || !slices.Equal(again, want) || !slices.Equal(hier.Segments(p, again), wantSegments) {
			t.Errorf("%q: answered again: %v %v, not %v", x.text, again, e, want)
		}
		if !slices.Equal(whole, []int{99, 5, -1, 2048, 3}) || p.Map().Text() != text || !slices.Equal(p.Cells(0), cells) {
			t.Errorf("%q: what was handed in: %v %q %v", x.text, whole, p.Map().Text(), p.Cells(0))
		}
	}
}

// P6.1: the same route each time: of another plan of the map, of bans in another order or more than once, and where several ask at once.
func TestSameAlways(t *testing.T) {
	r := rand.New(rand.NewSource(5))
	for _, s := range drawnTexts(5, 9) {
		first, second := plan(t, s), plan(t, s)
		free := first.Map().All()
		from, to, bans := free[r.Intn(len(free))], free[r.Intn(len(free))], drawnBans(r, first.Map(), 4)
		want, e := hier.Route(first, from, to, bans)
		other := append(slices.Clone(bans), bans...)
		slices.Reverse(other)
		var all sync.WaitGroup
		for range 3 {
			all.Go(func() {
				a, e1 := hier.Route(first, from, to, bans)
				b, e2 := hier.Route(second, from, to, other)
				if e1 != e || e2 != e || !slices.Equal(a, want) || !slices.Equal(b, want) {
					t.Errorf("%q: %v %v, %v %v, not %v %v", s, a, e1, b, e2, want, e)
				}
			})
		}
		all.Wait()
	}
}

// P6.4: each beginning and each end of a route is a shortest one; with more cells banned none is shorter; within a corridor none turns.
func TestFollows(t *testing.T) {
	r := rand.New(rand.NewSource(6))
	for _, s := range drawnTexts(6, 10) {
		p := plan(t, s)
		free := p.Map().All()
		for range 6 {
			from, to, bans := free[r.Intn(len(free))], free[r.Intn(len(free))], drawnBans(r, p.Map(), 6)
			cells, e := hier.Route(p, from, to, bans)
			expectParts(t, p, cells, bans)
			expectOnward(t, p, cells)
			more := append(slices.Clone(bans), drawnBans(r, p.Map(), 6)...)
			n, e2 := hier.Dist(p, from, to, more)
			if e2 == api.OK && (e != api.OK || n < len(cells)-1) {
				t.Fatalf("%q: %d to %d: %v %v with %v banned, %d with %v", p.Map().Text(), from, to, cells, e, bans, n, more)
			}
		}
	}
}

// expectParts asks for each beginning and each end of a route.
func expectParts(t *testing.T, p *segment.Plan, cells, bans []int) {
	t.Helper()
	for i, cell := range cells {
		if n, e := hier.Dist(p, cells[0], cell, bans); n != i || e != api.OK {
			t.Fatalf("%q: of %v, with %v banned: %d is %d %v from the beginning", p.Map().Text(), cells, bans, cell, n, e)
		}
		if n, e := hier.Dist(p, cell, cells[len(cells)-1], bans); n != len(cells)-1-i || e != api.OK {
			t.Fatalf("%q: of %v, with %v banned: %d is %d %v from the end", p.Map().Text(), cells, bans, cell, n, e)
		}
	}
}

// expectOnward asks for a corridor's cells in a route to be as they stand in it, or just against that.
func expectOnward(t *testing.T, p *segment.Plan, cells []int) {
	t.Helper()
	for i := 2; i < len(cells); i++ {
		s := p.Segment(cells[i])
		if p.Kind(s) != api.SegCorridor || p.Segment(cells[i-1]) != s || p.Segment(cells[i-2]) != s {
			continue
		}
		order := p.Cells(s)
		first, second, third := slices.Index(order, cells[i-2]), slices.Index(order, cells[i-1]), slices.Index(order, cells[i])
		if second-first != third-second {
			t.Fatalf("%q: %v turns within %v", p.Map().Text(), cells, order)
		}
	}
}
