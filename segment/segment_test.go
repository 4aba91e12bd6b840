package segment_test

import (
	"math"
	"math/rand"
	"slices"
	"strings"
	"sync"
	"testing"

	"wagonway/api"
	"wagonway/grid"
	"wagonway/segment"
)

const (
	marks = ".#^>v<"

	ring = ".../.#./.../"                        // the chapter's first example
	tee  = "...../##.##/##.##/"                  // and its second one
	loop = "...#/.#../...#/"                     // a corridor whose both ends are joined with one junction
	turn = ">>v/^#v/^<</"                        // a ring that goes round one way
	beat = ".>.<./"                              // a corridor that is entered from both ends, and left by none
	knot = "....../.##.#./....../.##.#./....../" // junctions of three and of four
)

// parse reads a map as the chapter's examples write it: / for a byte 10.
func parse(t *testing.T, s string) *grid.Map {
	t.Helper()
	m, line, column, e := grid.Parse(strings.ReplaceAll(s, "/", "\n"))
	if e != api.OK {
		t.Fatalf("Parse(%q) = %d:%d %v", s, line, column, e)
	}
	return m
}

func plan(t *testing.T, s string) *segment.Plan {
	t.Helper()
	p, e := segment.Of(parse(t, s))
	if p == nil || e != api.OK {
		t.Fatalf("Of(%q) = %v %v", s, p, e)
	}
	return p
}

// every tells all maps' texts of so many rows and columns with some cells free, of the marks alone.
func every(rows, cols int, marks string) []string {
	var texts []string
	cells := make([]byte, rows*cols)
	var fill func(i int)
	fill = func(i int) {
		if i < len(cells) {
			for k := range len(marks) {
				cells[i] = marks[k]
				fill(i + 1)
			}
			return
		}
		var b strings.Builder
		for row := range slices.Chunk(cells, cols) {
			b.Write(row)
			b.WriteByte('/')
		}
		if strings.Trim(b.String(), "#/") != "" {
			texts = append(texts, b.String())
		}
	}
	fill(0)
	return texts
}

// drawn is a map's text out of draws: so many in a hundred of its cells are walls, so many one-way.
func drawn(r *rand.Rand, rows, cols, walls, oneWay int) string {
	for {
		var b strings.Builder
		for range rows {
			for range cols {
				switch n := r.Intn(100); {
				case n < walls:
					b.WriteByte('#')
				case n < walls+oneWay:
					b.WriteByte(marks[2+r.Intn(4)])
				default:
					b.WriteByte('.')
				}
			}
			b.WriteByte('/')
		}
		if strings.Trim(b.String(), "#/") != "" {
			return b.String()
		}
	}
}

// drawnMaps are texts of many sizes, the greatest among them, with many walls and few, with one-way cells and without.
func drawnMaps(seed int64, most int) []string {
	r := rand.New(rand.NewSource(seed))
	texts := []string{"./", "^/", "#./", "../", ".../", "><./", ring, tee, loop, turn, beat, knot, "../../", "<</>./"}
	for _, walls := range []int{10, 30, 45, 60} {
		for _, oneWay := range []int{0, 5, 25} {
			for side := 2; side <= 9; side++ {
				texts = append(texts, drawn(r, side, 11-side, walls, oneWay), drawn(r, side, side, walls, oneWay))
			}
			texts = append(texts, drawn(r, 1, most, walls, oneWay), drawn(r, most, 1, walls, oneWay), drawn(r, most, most, walls, oneWay))
		}
	}
	return texts
}

// joined are the cells that are joined with one, by the words, rising.
func joined(m *grid.Map, cell int) []int {
	var list []int
	for other := range m.Cells() {
		if m.Edge(cell, other) || m.Edge(other, cell) {
			list = append(list, other)
		}
	}
	return list
}

// sets are the segments' cells by the words, rising, and the segments by their least cells; joins are what each cell is joined with.
func sets(m *grid.Map, joins [][]int) [][]int {
	var all [][]int
	met := make([]bool, m.Cells())
	for _, cell := range m.All() {
		if met[cell] {
			continue
		}
		met[cell] = true
		set := []int{cell}
		for i := 0; i < len(set) && len(joins[cell]) == 2; i++ {
			for _, other := range joins[set[i]] {
				if !met[other] && len(joins[other]) == 2 {
					met[other] = true
					set = append(set, other)
				}
			}
		}
		slices.Sort(set)
		all = append(all, set)
	}
	return all
}

// kindOf is a segment's, by the words.
func kindOf(set []int, joins [][]int) int {
	if len(joins[set[0]]) != 2 {
		return api.SegJunction
	}
	for _, cell := range set {
		for _, other := range joins[cell] {
			if !slices.Contains(set, other) {
				return api.SegCorridor
			}
		}
	}
	return api.SegRing
}

// expectOrder holds cells against the words that say how they stand.
func expectOrder(t *testing.T, m *grid.Map, kind int, cells []int, joins [][]int) {
	t.Helper()
	for i, cell := range cells[1:] {
		if !slices.Contains(joins[cells[i]], cell) {
			t.Fatalf("%q: %v: %d is not joined with %d", m.Text(), cells, cells[i], cell)
		}
	}
	first, last := cells[0], cells[len(cells)-1]
	switch {
	case kind == api.SegJunction && len(cells) != 1:
		t.Fatalf("%q: %v is a junction", m.Text(), cells)
	case kind == api.SegCorridor && first > last:
		t.Fatalf("%q: the corridor %v begins by the greater end", m.Text(), cells)
	case kind == api.SegRing && (first != slices.Min(cells) || !slices.Equal(joins[first], []int{cells[1], last})):
		t.Fatalf("%q: the ring %v does not begin by its least cell and the lesser one beside it", m.Text(), cells)
	}
}

// expectSegments holds a map's segments against the words (P5.1, P5.5), and answers their cells.
func expectSegments(t *testing.T, p *segment.Plan, m *grid.Map) [][]int {
	t.Helper()
	joins := make([][]int, m.Cells())
	for cell := range joins {
		joins[cell] = joined(m, cell)
	}
	want := sets(m, joins)
	if p.Len() != len(want) || p.Map() != m {
		t.Fatalf("%q: Len = %d, not %d", m.Text(), p.Len(), len(want))
	}
	of := slices.Repeat([]int{-1}, m.Cells())
	for s, set := range want {
		cells := p.Cells(s)
		if sorted := slices.Sorted(slices.Values(cells)); !slices.Equal(sorted, set) {
			t.Fatalf("%q: Cells(%d) = %v, not %v in order", m.Text(), s, cells, set)
		}
		kind := kindOf(set, joins)
		if p.Kind(s) != kind {
			t.Fatalf("%q: Kind(%d) = %d, not %d", m.Text(), s, p.Kind(s), kind)
		}
		expectOrder(t, m, kind, cells, joins)
		for _, cell := range set {
			of[cell] = s
		}
	}
	for cell := -2; cell <= m.Cells()+1; cell++ {
		s := -1
		if cell >= 0 && cell < m.Cells() {
			s = of[cell]
		}
		if p.Segment(cell) != s {
			t.Fatalf("%q: Segment(%d) = %d, not %d", m.Text(), cell, p.Segment(cell), s)
		}
	}
	return want
}

// expectDoors holds a map's doors against the words (P5.2, P5.5).
func expectDoors(t *testing.T, p *segment.Plan, m *grid.Map, want [][]int) {
	t.Helper()
	told, inside := 0, 0
	for s := range want {
		var next []int
		for k := range want {
			var doors [][2]int
			for _, a := range want[s] {
				for _, b := range m.Next(a) {
					if k != s && slices.Contains(want[k], b) {
						doors = append(doors, [2]int{a, b})
					}
				}
			}
			if len(doors) > 0 {
				next = append(next, k)
			}
			if got := p.Doors(s, k); !slices.Equal(got, doors) {
				t.Fatalf("%q: Doors(%d, %d) = %v, not %v", m.Text(), s, k, got, doors)
			}
			if len(doors) > 0 && p.Kind(s) != api.SegJunction && p.Kind(k) != api.SegJunction {
				t.Fatalf("%q: doors from %d to %d, and none is a junction", m.Text(), s, k)
			}
			told += len(doors)
		}
		if got := p.Next(s); !slices.Equal(got, next) {
			t.Fatalf("%q: Next(%d) = %v, not %v", m.Text(), s, got, next)
		}
		for _, a := range want[s] {
			for _, b := range want[s] {
				if m.Edge(a, b) {
					inside++
				}
			}
		}
	}
	if told+inside != m.Edges() {
		t.Fatalf("%q: %d doors, %d edges inside, %d in all", m.Text(), told, inside, m.Edges())
	}
}

// distances are those from a cell over a set's cells alone, -1 for none.
func distances(m *grid.Map, from int, set []int) []int {
	dist := slices.Repeat([]int{-1}, m.Cells())
	dist[from] = 0
	for front := []int{from}; len(front) > 0; front = front[1:] {
		for _, b := range m.Next(front[0]) {
			if _, there := slices.BinarySearch(set, b); there && dist[b] < 0 {
				dist[b] = dist[front[0]] + 1
				front = append(front, b)
			}
		}
	}
	return dist
}

// expectInside holds ways within segments against the words (P5.3).
func expectInside(t *testing.T, p *segment.Plan, m *grid.Map, want [][]int) {
	t.Helper()
	for s, set := range want {
		others := []int{-1, m.Cells(), want[(s+1)%len(want)][0], m.Cells() - 1}
		for _, a := range set {
			dist := distances(m, a, set)
			for _, b := range append(others, set...) {
				far := -1
				if b >= 0 && b < m.Cells() {
					far = dist[b]
				}
				if got := p.Inside(a, b); got != far {
					t.Fatalf("%q: Inside(%d, %d) = %d, not %d", m.Text(), a, b, got, far)
				}
			}
		}
	}
}

// The chapter's examples.
func TestExamples(t *testing.T) {
	p := plan(t, ring)
	if l := p.Cells(0); p.Len() != 1 || p.Kind(0) != api.SegRing || !slices.Equal(l, []int{0, 1, 2, 5, 8, 7, 6, 3}) {
		t.Errorf("the ring: %d segments, %d, %v", p.Len(), p.Kind(0), l)
	}
	p = plan(t, tee)
	for s, want := range [][]int{{0}, {1}, {2}, {3}, {4}, {7}, {12}} {
		if l := p.Cells(s); p.Len() != 7 || !slices.Equal(l, want) {
			t.Errorf("Cells(%d) = %v, not %v; of %d", s, l, want, p.Len())
		}
	}
	if p.Kind(0) != api.SegJunction || p.Kind(1) != api.SegCorridor || p.Kind(2) != api.SegJunction {
		t.Errorf("kinds: %d %d %d", p.Kind(0), p.Kind(1), p.Kind(2))
	}
	if l := p.Doors(1, 2); !slices.Equal(l, [][2]int{{1, 2}}) {
		t.Errorf("Doors(1, 2) = %v", l)
	}
	if l := p.Doors(2, 5); !slices.Equal(l, [][2]int{{2, 7}}) {
		t.Errorf("Doors(2, 5) = %v", l)
	}
}

// P5.1, P5.2, P5.3, P5.5: all maps of a few cells, against the words.
func TestEverySmallMap(t *testing.T) {
	for _, texts := range [][]string{every(1, 1, marks), every(1, 4, marks), every(4, 1, marks), every(2, 2, marks), every(3, 4, ".#"), every(4, 3, ".#"), every(2, 3, ".#>^")} {
		for _, s := range texts {
			p := plan(t, s)
			want := expectSegments(t, p, p.Map())
			expectDoors(t, p, p.Map(), want)
			expectInside(t, p, p.Map(), want)
		}
	}
}

// P5.1, P5.3: likewise on greater maps.
func TestDrawnMaps(t *testing.T) {
	for _, s := range drawnMaps(1, api.MaxSide) {
		p := plan(t, s)
		expectInside(t, p, p.Map(), expectSegments(t, p, p.Map()))
	}
}

// P5.2, P5.5: doors of all pairs of segments on greater maps.
func TestDrawnDoors(t *testing.T) {
	for _, s := range drawnMaps(2, 12) {
		p := plan(t, s)
		expectDoors(t, p, p.Map(), expectSegments(t, p, p.Map()))
	}
}

// Words: what is joined with none, one, three or four is a junction; corridors and rings are of cells that are joined with two.
func TestKinds(t *testing.T) {
	for _, x := range []struct {
		text  string
		cell  int
		kind  int
		cells []int
	}{
		{"./", 0, api.SegJunction, []int{0}},
		{"../", 1, api.SegJunction, []int{1}},
		{".../", 1, api.SegCorridor, []int{1}},
		{"><./", 0, api.SegJunction, []int{0}}, // no edge either way: side by side, and not joined
		{"><./", 1, api.SegJunction, []int{1}}, // 2 goes to it
		{"^/v/", 0, api.SegJunction, []int{0}},
		{".^./", 1, api.SegCorridor, []int{1}},     // entered from both sides, left to none
		{".../.v./", 1, api.SegJunction, []int{1}}, // joined with three, one of them one way
		{tee, 2, api.SegJunction, []int{2}},
		{knot, 15, api.SegJunction, []int{15}},        // joined with four
		{knot, 7, api.SegNone, nil},                   // a wall
		{knot, 6, api.SegCorridor, []int{2, 1, 0, 6}}, // ends 2 and 6
		{"../../", 3, api.SegRing, []int{0, 1, 3, 2}},
		{"#../.../..#/", 4, api.SegJunction, []int{4}},
		{"#../.../..#/", 1, api.SegCorridor, []int{1, 2, 5}},
		{"#../.../..#/", 3, api.SegCorridor, []int{3, 6, 7}},
		{loop, 0, api.SegCorridor, []int{2, 1, 0, 4, 8, 9, 10}}, // the least cell lies within it
		{turn, 8, api.SegRing, []int{0, 1, 2, 5, 8, 7, 6, 3}},
		{"....#/#..../", 1, api.SegJunction, []int{1}},
	} {
		p := plan(t, x.text)
		s := p.Segment(x.cell)
		if l := p.Cells(s); p.Kind(s) != x.kind || !slices.Equal(l, x.cells) || (s < 0) != (x.cells == nil) {
			t.Errorf("%q: the segment %d of %d is %d, %v", x.text, s, x.cell, p.Kind(s), l)
		}
	}
}

// P5.1: the errors; nothing stands beside them.
func TestErrors(t *testing.T) {
	for _, m := range []*grid.Map{nil, {}} {
		if p, e := segment.Of(m); p != nil || e != api.ErrNil {
			t.Errorf("Of(%v) = %v %v", m, p, e)
		}
	}
}

// P5.1, P5.2, P5.3: cells and segments that there are not; plans that nobody made.
func TestNone(t *testing.T) {
	made := plan(t, tee)
	for _, p := range []*segment.Plan{nil, {}, made} {
		for _, n := range []int{math.MinInt, -1, 0, 6, 7, 15, math.MaxInt} {
			if p == made && (n == 0 || n == 6) {
				continue
			}
			if p != made && (p.Len() != 0 || p.Map() != nil || p.Segment(n) != -1 || p.Inside(n, n) != -1) {
				t.Errorf("of no plan: %d %v, %d has %d, %d", p.Len(), p.Map(), n, p.Segment(n), p.Inside(n, n))
			}
			if len(p.Cells(n)) > 0 || p.Kind(n) != api.SegNone || len(p.Next(n)) > 0 {
				t.Errorf("of segment %d: %v, %d, %v", n, p.Cells(n), p.Kind(n), p.Next(n))
			}
			for _, other := range []int{-1, 0, 2, 7, n} {
				if len(p.Doors(n, other)) > 0 || len(p.Doors(other, n)) > 0 {
					t.Errorf("of segments %d and %d: %v, %v", n, other, p.Doors(n, other), p.Doors(other, n))
				}
			}
		}
	}
	for _, cell := range []int{math.MinInt, -1, 5, 6, 15, math.MaxInt} {
		if made.Segment(cell) != -1 || made.Inside(cell, cell) != -1 || made.Inside(2, cell) != -1 || made.Inside(cell, 2) != -1 {
			t.Errorf("cell %d: of %d, %d, %d, %d", cell, made.Segment(cell), made.Inside(cell, cell), made.Inside(2, cell), made.Inside(cell, 2))
		}
	}
}

// P5.2: Next and Doors go by edges, one way or both; nothing within one segment.
func TestDoors(t *testing.T) {
	for _, x := range []struct {
		text  string
		s, t  int
		doors [][2]int
		next  []int // of s
	}{
		{tee, 2, 2, nil, []int{1, 3, 5}},
		{tee, 0, 2, nil, []int{1}},
		{loop, 1, 0, [][2]int{{6, 2}, {6, 10}}, []int{0, 2}}, // 0 is the corridor
		{loop, 0, 1, [][2]int{{2, 6}, {10, 6}}, []int{1}},
		{ring, 0, 0, nil, nil},
		{".>../", 0, 1, [][2]int{{0, 1}}, []int{1}},
		{".>../", 1, 0, nil, []int{2}},
		{beat, 1, 0, nil, nil},
		{beat, 1, 2, nil, nil},
		{beat, 2, 1, [][2]int{{4, 3}}, []int{1}},
		{"><./", 0, 1, nil, nil},
		{"><./", 2, 1, [][2]int{{2, 1}}, []int{1}},
	} {
		p := plan(t, x.text)
		if l := p.Doors(x.s, x.t); !slices.Equal(l, x.doors) {
			t.Errorf("%q: Doors(%d, %d) = %v, not %v", x.text, x.s, x.t, l, x.doors)
		}
		if l := p.Next(x.s); !slices.Equal(l, x.next) {
			t.Errorf("%q: Next(%d) = %v, not %v", x.text, x.s, l, x.next)
		}
	}
}

// P5.3: over cells of the segment alone, along edges, the shorter way round.
func TestInside(t *testing.T) {
	for _, x := range []struct {
		text      string
		a, b, far int
	}{
		{tee, 2, 2, 0},
		{tee, 2, 1, -1}, // an edge, but of two segments
		{ring, 4, 4, -1},
		{ring, 0, 0, 0},
		{ring, 0, 8, 4},
		{ring, 3, 1, 2},
		{ring, 2, 7, 3},
		{turn, 0, 3, 7}, // round the long way
		{turn, 3, 0, 1},
		{turn, 8, 5, 7},
		{loop, 2, 10, 6}, // not by the junction, which would be 2
		{loop, 10, 2, 6},
		{loop, 2, 6, -1},
		{beat, 1, 2, 1},
		{beat, 3, 2, 1},
		{beat, 2, 1, -1},
		{beat, 1, 3, -1},
		{"..<./", 1, 2, -1},
		{"..<./", 2, 1, 1},
		{">>../.#.#/..<</", 1, 8, -1},
		{"../../", 0, 3, 2},
		{"../../", 1, 2, 2},
		{"..../", 1, 2, 1},
		{"..../", 2, 1, 1},
	} {
		if far := plan(t, x.text).Inside(x.a, x.b); far != x.far {
			t.Errorf("%q: Inside(%d, %d) = %d, not %d", x.text, x.a, x.b, far, x.far)
		}
	}
}

// edging is the greatest ring: the cells at the edge of the greatest map.
func edging() string {
	full := strings.Repeat(".", api.MaxSide) + "/"
	return full + strings.Repeat("."+strings.Repeat("#", api.MaxSide-2)+"./", api.MaxSide-2) + full
}

// winding is a map of the greatest size with one long corridor, row by row.
func winding() string {
	var b strings.Builder
	for row := range api.MaxSide {
		switch row % 4 {
		case 1:
			b.WriteString(strings.Repeat("#", api.MaxSide-1) + ".")
		case 3:
			b.WriteString("." + strings.Repeat("#", api.MaxSide-1))
		default:
			b.WriteString(strings.Repeat(".", api.MaxSide))
		}
		b.WriteByte('/')
	}
	return b.String()
}

// The greatest ring, and a long corridor.
func TestGreat(t *testing.T) {
	p := plan(t, edging())
	last := api.MaxCells - 1
	if l := p.Cells(0); p.Len() != 1 || p.Kind(0) != api.SegRing || len(l) != 4*(api.MaxSide-1) || l[1] != 1 || l[len(l)-1] != api.MaxSide {
		t.Fatalf("the ring: %d segments, %d, %v", p.Len(), p.Kind(0), l)
	}
	if far := p.Inside(0, last); far != 2*(api.MaxSide-1) {
		t.Errorf("across the ring: %d", far)
	}
	if far := p.Inside(last, last-1); far != 1 {
		t.Errorf("beside one another in the ring: %d", far)
	}
	p = plan(t, winding())
	free := p.Map().All()
	cells := p.Cells(1)
	if p.Len() != 3 || p.Kind(1) != api.SegCorridor || len(cells) != len(free)-2 || cells[0] != 1 {
		t.Fatalf("the corridor: %d segments, %d, %v", p.Len(), p.Kind(1), cells)
	}
	if far := p.Inside(cells[len(cells)-1], cells[0]); far != len(cells)-1 {
		t.Errorf("through the corridor: %d, not %d", far, len(cells)-1)
	}
	open := plan(t, strings.Repeat(strings.Repeat(".", api.MaxSide)+"/", api.MaxSide))
	for s := range api.MaxCells { // each cell is a segment: the corners are corridors, joined with two junctions
		if open.Len() != api.MaxCells || !slices.Equal(open.Cells(s), []int{s}) {
			t.Fatalf("where all is open: %d segments, %d is %v", open.Len(), s, open.Cells(s))
		}
	}
	if open.Kind(0) != api.SegCorridor || open.Kind(1) != api.SegJunction || open.Kind(last) != api.SegCorridor {
		t.Errorf("where all is open: %d %d %d", open.Kind(0), open.Kind(1), open.Kind(last))
	}
}

// P5.4: answers may be written to and added to; they share nothing with the plan, the map, or one another.
func TestMemory(t *testing.T) {
	p := plan(t, loop)
	text := p.Map().Text()
	ask := func() ([]int, []int, [][2]int) { return p.Cells(0), p.Next(1), p.Doors(1, 0) }
	cells, next, doors := ask()
	wantCells, wantNext, wantDoors := slices.Clone(cells), slices.Clone(next), slices.Clone(doors)
	for _, list := range [][]int{cells[:cap(cells)], next[:cap(next)]} {
		for i := range list {
			list[i] = -77
		}
	}
	for i := range doors[:cap(doors)] {
		doors[:cap(doors)][i] = [2]int{-77, -77}
	}
	cells, next, doors = ask()
	if !slices.Equal(cells, wantCells) || !slices.Equal(next, wantNext) || !slices.Equal(doors, wantDoors) || len(doors) != 2 {
		t.Errorf("answered again: %v %v %v", cells, next, doors)
	}
	if p.Map().Text() != text || p.Inside(2, 10) != 6 || p.Segment(6) != 1 {
		t.Errorf("the plan: %q %d %d", p.Map().Text(), p.Inside(2, 10), p.Segment(6))
	}
}

// P5.1: two plans of one map are alike, and each has that map; both may be asked at once.
func TestSameAlways(t *testing.T) {
	m := parse(t, knot)
	first, _ := segment.Of(m)
	var all sync.WaitGroup
	for range 8 {
		all.Go(func() {
			p, e := segment.Of(m)
			if e != api.OK || p.Map() != m || p.Len() != first.Len() {
				t.Errorf("Of = %v %v", p, e)
				return
			}
			for s := range p.Len() {
				if !slices.Equal(p.Cells(s), first.Cells(s)) || !slices.Equal(p.Next(s), first.Next(s)) || p.Kind(s) != first.Kind(s) {
					t.Errorf("segment %d: %v and %v", s, p.Cells(s), first.Cells(s))
				}
			}
		})
	}
	all.Wait()
}
