package grid_test

import (
	"math"
	"math/rand"
	"slices"
	"strings"
	"sync"
	"testing"

	"wagonway/api"
	"wagonway/grid"
)

const marks = ".#^>v<"

// text writes a map's text as the chapter's examples do: / for a byte 10.
func text(s string) string { return strings.ReplaceAll(s, "/", "\n") }

func parse(t *testing.T, s string) *grid.Map {
	t.Helper()
	m, line, column, e := grid.Parse(text(s))
	if m == nil || line != 0 || column != 0 || e != api.OK {
		t.Fatalf("Parse(%q) = %v %d:%d %v", s, m, line, column, e)
	}
	return m
}

// drawn is a map out of draws, walls and one-way cells among its cells.
func drawn(r *rand.Rand, rows, cols int) string {
	for {
		var b strings.Builder
		for range rows {
			for range cols {
				b.WriteByte(marks[max(0, r.Intn(9)-3)])
			}
			b.WriteByte('/')
		}
		if strings.Trim(b.String(), "#/") != "" {
			return b.String()
		}
	}
}

// drawnMaps are maps of many sizes: the least, the greatest, and some between.
func drawnMaps() []string {
	r := rand.New(rand.NewSource(1))
	all := []string{
		".", "^", "..", ">.", ".<", "><", "<>", ">>", "./.", "^/v", "v/^", "v/v", "#.", ".#/#.", "...../#####/.....",
	}
	for i := range all {
		all[i] += "/"
	}
	for rows := 1; rows <= 6; rows++ {
		for cols := 1; cols <= 6; cols++ {
			all = append(all, drawn(r, rows, cols), drawn(r, rows, cols))
		}
	}
	return append(all, drawn(r, 1, api.MaxSide), drawn(r, api.MaxSide, 1), drawn(r, api.MaxSide, api.MaxSide))
}

// edge says by the chapter's own words whether one goes from a to b.
func edge(m *grid.Map, a, b int) bool {
	cols := m.Cols()
	if !m.Free(a) || !m.Free(b) {
		return false
	}
	var way, against byte
	switch {
	case b == a-cols:
		way, against = '^', 'v'
	case b == a+cols:
		way, against = 'v', '^'
	case b == a+1 && b%cols != 0:
		way, against = '>', '<'
	case b == a-1 && a%cols != 0:
		way, against = '<', '>'
	default:
		return false
	}
	return (m.Kind(a) == '.' || m.Kind(a) == way) && m.Kind(b) != against
}

// P1.1: texts that are maps.
func TestParseTakesMaps(t *testing.T) {
	side := strings.Repeat(".", api.MaxSide) + "/"
	for _, s := range []string{
		"./", "^/", ">/", "v/", "</", "#./", "#/./", "..>/#.v/", ".#^>v</",
		side, strings.Repeat("./", api.MaxSide), strings.Repeat(side, api.MaxSide),
	} {
		parse(t, s)
	}
}

// P1.1: of texts that are none, the first place in the text is told.
func TestParseTellsFaults(t *testing.T) {
	side := strings.Repeat(".", api.MaxSide)
	full := strings.Repeat(side+"/", api.MaxSide)
	for _, c := range []struct {
		s            string
		line, column int
	}{
		// a byte that is no cell's
		{".x/", 1, 2}, {"x", 1, 1}, {" ./", 1, 1}, {"./ /", 2, 1}, {"..\r/", 1, 3}, {".\x00/", 1, 2}, {".\xff/", 1, 2},
		{".V/", 1, 2}, {".é/", 1, 2}, {"../.x./", 2, 2}, {".x/../#/", 1, 2}, {"##/#x/", 2, 2}, {"0/", 1, 1},
		// a row that is too short: at its end
		{".././", 2, 2}, {".../.../../", 3, 3}, {"##/#/", 2, 2}, {".././x/", 2, 2},
		// a row that is too long: at the first cell that is too many
		{"./../", 2, 2}, {"../..../", 2, 3}, {"../...x/", 2, 3}, {"../..x/", 2, 3}, {"../...", 2, 3},
		{side + "./", 1, api.MaxSide + 1}, {side + "..../", 1, api.MaxSide + 1}, {side + ".", 1, api.MaxSide + 1},
		{side + "/" + side + "./", 2, api.MaxSide + 1}, {side + "x/", 1, api.MaxSide + 1},
		// a row too many
		{full + side + "/", api.MaxSide + 1, 1}, {full + ".", api.MaxSide + 1, 1}, {full + "/", api.MaxSide + 1, 1},
		{full + "x", api.MaxSide + 1, 1}, {full + full, api.MaxSide + 1, 1},
		{strings.Repeat("#/", api.MaxSide) + "#/", api.MaxSide + 1, 1},
		// a last row without a byte 10: behind its last byte
		{"..", 1, 3}, {".", 1, 2}, {"../..", 2, 3}, {"../.", 2, 2}, {"##", 1, 3}, {side, 1, api.MaxSide + 1},
		// no row, and rows of no cell
		{"", 1, 1}, {"/", 1, 1}, {"//", 1, 1}, {"/../", 1, 1}, {"..//", 2, 1}, {"..//../", 2, 1}, {"../..//x", 3, 1},
		// no free cell
		{"##/", 0, 0}, {"#/", 0, 0}, {"##/##/", 0, 0}, {strings.Repeat(strings.Repeat("#", api.MaxSide)+"/", api.MaxSide), 0, 0},
	} {
		m, line, column, e := grid.Parse(text(c.s))
		if m != nil || line != c.line || column != c.column || e != api.ErrMap {
			t.Errorf("Parse(%q) = %v %d:%d %v, not %d:%d", c.s, m, line, column, e, c.line, c.column)
		}
	}
}

// P1.1: the fault is where the text, as far as it goes ahead of it, may still become a map, and with its byte may not.
func TestParseTellsTheFirstFault(t *testing.T) {
	r := rand.New(rand.NewSource(2))
	for _, s := range drawnMaps() {
		for range 20 {
			at := r.Intn(len(s))
			spoilt := text(s[:at] + string([]byte{byte(r.Intn(256))}) + s[at+1:])
			m, line, column, e := grid.Parse(spoilt)
			if e == api.OK {
				if m.Text() != spoilt {
					t.Errorf("Parse(%q) is %q", spoilt, m.Text())
				}
				continue
			}
			if line == 0 && column == 0 {
				if strings.Trim(spoilt, "#\n") != "" {
					t.Errorf("Parse(%q): a cell is free", spoilt)
				}
				continue
			}
			if want := position(spoilt, offset(spoilt, line, column)); want != [2]int{line, column} {
				t.Errorf("Parse(%q) = %d:%d: no such place", spoilt, line, column)
			}
			if first := firstFault(spoilt); first != offset(spoilt, line, column) {
				t.Errorf("Parse(%q) = %d:%d, not byte %d", spoilt, line, column, first)
			}
		}
	}
}

func offset(s string, line, column int) int {
	at := 0
	for ; line > 1; line-- {
		at += strings.IndexByte(s[at:], '\n') + 1
	}
	return at + column - 1
}

func position(s string, at int) [2]int {
	at = min(max(at, 0), len(s))
	return [2]int{strings.Count(s[:at], "\n") + 1, at - strings.LastIndexByte(s[:at], '\n')}
}

// firstFault is how many bytes of a text the longest beginning has that some map's text begins with.
func firstFault(s string) int {
	for n := range len(s) {
		if !begins(s[:n+1]) {
			return n
		}
	}
	return len(s)
}

func begins(s string) bool {
	rows := strings.Split(s, "\n")
	whole, rest := rows[:len(rows)-1], rows[len(rows)-1]
	if strings.Trim(s, marks+"\n") != "" || len(whole) > api.MaxSide || len(whole) == api.MaxSide && rest != "" {
		return false
	}
	most := api.MaxSide
	for i, row := range whole {
		if row == "" || len(row) > most || i > 0 && len(row) != most {
			return false
		}
		most = len(row)
	}
	return len(rest) <= most
}

// P1.2
func TestCells(t *testing.T) {
	m := parse(t, "..>/#.v/")
	if m.Text() != "..>\n#.v\n" || m.Rows() != 2 || m.Cols() != 3 || m.Cells() != 6 {
		t.Errorf("%q %d %d %d", m.Text(), m.Rows(), m.Cols(), m.Cells())
	}
	if got := m.All(); !slices.Equal(got, []int{0, 1, 2, 4, 5}) {
		t.Error("All", got)
	}
	for cell, kind := range []byte("..>#.v") {
		if m.Kind(cell) != kind || m.Free(cell) != (kind != '#') {
			t.Error(cell, m.Kind(cell), m.Free(cell))
		}
	}
}

// P1.2: one cell, and the most there may be.
func TestCellsOfTheLeastAndTheGreatest(t *testing.T) {
	one := parse(t, "./")
	if one.Text() != ".\n" || one.Rows() != 1 || one.Cols() != 1 || one.Cells() != 1 || !slices.Equal(one.All(), []int{0}) || one.Kind(0) != '.' || !one.Free(0) {
		t.Error("one cell:", one.Text(), one.All())
	}
	s := strings.Repeat(strings.Repeat(".", api.MaxSide)+"/", api.MaxSide)
	most := parse(t, s)
	if most.Text() != text(s) || most.Rows() != api.MaxSide || most.Cols() != api.MaxSide || most.Cells() != api.MaxCells || len(most.All()) != api.MaxCells {
		t.Error("most cells:", most.Rows(), most.Cols(), most.Cells(), len(most.All()))
	}
	for i, cell := range most.All() {
		if cell != i {
			t.Error(i, cell)
		}
	}
	if most.Kind(api.MaxCells-1) != '.' || most.Kind(api.MaxCells) != 0 || most.Free(api.MaxCells) {
		t.Error("behind the last one")
	}
}

// P1.2, P1.3: of a number that is no cell's all calls answer so.
func TestNoCell(t *testing.T) {
	for _, s := range []string{"./", "..>/#.v/", "..../"} {
		m := parse(t, s)
		for _, cell := range []int{-1, -m.Cols(), m.Cells(), m.Cells() + 1, m.Cells() + m.Cols(), api.MaxCells, math.MaxInt, math.MinInt} {
			if m.Kind(cell) != 0 || m.Free(cell) || len(m.Next(cell)) != 0 || len(m.Back(cell)) != 0 {
				t.Error(s, cell, m.Kind(cell), m.Free(cell), m.Next(cell), m.Back(cell))
			}
			if m.Far(cell, 0) != -1 || m.Far(0, cell) != -1 || m.Far(cell, cell) != -1 {
				t.Error(s, cell, m.Far(cell, 0), m.Far(0, cell))
			}
			if m.Edge(cell, 0) || m.Edge(0, cell) || m.Edge(cell, cell) || m.Edge(cell, cell+1) || m.Edge(m.Cells()-1, cell) {
				t.Error(s, cell, "an edge")
			}
		}
	}
}

// P1.3
func TestEdges(t *testing.T) {
	m := parse(t, "..>/#.v/")
	next := [][]int{{1}, {0, 2, 4}, nil, nil, {1, 5}, nil}
	back := [][]int{{1}, {0, 4}, {1}, nil, {1}, {4}}
	for cell := range next {
		if got := m.Next(cell); !slices.Equal(got, next[cell]) {
			t.Error("Next", cell, got)
		}
		if got := m.Back(cell); !slices.Equal(got, back[cell]) {
			t.Error("Back", cell, got)
		}
	}
	if m.Edges() != 6 || !m.Edge(1, 4) || m.Edge(4, 0) || m.Edge(2, 1) || m.Edge(2, 5) || m.Edge(1, 1) {
		t.Error(m.Edges())
	}
}

// P1.3: how a cell in the middle is left and entered, for each mark of it.
func TestEdgesOfMarks(t *testing.T) {
	for _, c := range []struct {
		mark       string
		next, back []int
	}{
		{".", []int{1, 3, 5, 7}, []int{1, 3, 5, 7}},
		{"#", nil, nil},
		{"^", []int{1}, []int{3, 5, 7}},
		{">", []int{5}, []int{1, 3, 7}},
		{"v", []int{7}, []int{1, 3, 5}},
		{"<", []int{3}, []int{1, 5, 7}},
	} {
		m := parse(t, ".../."+c.mark+"./.../")
		if got := m.Next(4); !slices.Equal(got, c.next) {
			t.Error(c.mark, "Next", got)
		}
		if got := m.Back(4); !slices.Equal(got, c.back) {
			t.Error(c.mark, "Back", got)
		}
		if want := 16 + len(c.next) + len(c.back); m.Edges() != want {
			t.Error(c.mark, "Edges", m.Edges())
		}
	}
}

// P1.3: one-way cells against one another, side by side, and at the map's sides.
func TestEdgesOfOneWayCells(t *testing.T) {
	for _, c := range []struct {
		s           string
		there, back bool // whether an edge goes from 0 to 1, and back
	}{
		{"../", true, true}, {"#./", false, false}, {".#/", false, false},
		{">./", true, false}, {".>/", true, false}, {"<./", false, true}, {".</", false, true},
		{">>/", true, false}, {"<</", false, true}, {"></", false, false}, {"<>/", false, false},
		{"^./", false, true}, {".^/", true, false}, {"v./", false, true}, {".v/", true, false},
		{">^/", true, false}, {"^</", false, true}, {"^^/", false, false}, {"^v/", false, false},
		{"././", true, true}, {"v/./", true, false}, {"./v/", true, false}, {"^/./", false, true}, {"./^/", false, true},
		{"v/v/", true, false}, {"^/^/", false, true}, {"v/^/", false, false}, {"^/v/", false, false},
		{">/./", false, true}, {"./>/", true, false}, {"v/>/", true, false}, {"</</", false, false},
	} {
		m := parse(t, c.s)
		edges := 0
		for _, is := range []bool{c.there, c.back} {
			if is {
				edges++
			}
		}
		if m.Edge(0, 1) != c.there || m.Edge(1, 0) != c.back || m.Edges() != edges {
			t.Error(c.s, m.Edge(0, 1), m.Edge(1, 0), m.Edges())
		}
	}
	for _, s := range []string{"^/", ">/", "v/", "</", "./"} {
		if m := parse(t, s); m.Edges() != 0 || len(m.Next(0)) != 0 || len(m.Back(0)) != 0 || m.Edge(0, 0) {
			t.Error(s, m.Edges())
		}
	}
}

// P1.3: no edge goes around a side of the map.
func TestEdgesAtSides(t *testing.T) {
	m := parse(t, ".../.../.../")
	for cell, want := range [][]int{{1, 3}, {0, 2, 4}, {1, 5}, {0, 4, 6}, {1, 3, 5, 7}, {2, 4, 8}, {3, 7}, {4, 6, 8}, {5, 7}} {
		if got := m.Next(cell); !slices.Equal(got, want) {
			t.Error(cell, got)
		}
	}
	out := parse(t, "^^^/<.>/vvv/")
	for cell, want := range [][]int{nil, nil, nil, nil, {1, 3, 5, 7}, nil, nil, nil, nil} {
		if got := out.Next(cell); !slices.Equal(got, want) {
			t.Error(cell, got)
		}
	}
	if out.Edges() != 4 || out.Edge(2, 3) || out.Edge(5, 6) {
		t.Error(out.Edges())
	}
}

// P1.3
func TestFar(t *testing.T) {
	m := parse(t, ".#../..>./v.../")
	for _, c := range [][3]int{{0, 0, 0}, {0, 11, 5}, {11, 0, 5}, {3, 8, 5}, {8, 3, 5}, {3, 4, 4}, {1, 1, 0}, {1, 9, 2}, {2, 3, 1}, {2, 6, 1}, {6, 9, 2}} {
		if got := m.Far(c[0], c[1]); got != c[2] {
			t.Error(c, got)
		}
	}
	most := parse(t, strings.Repeat(strings.Repeat(".", api.MaxSide)+"/", api.MaxSide))
	if got := most.Far(0, api.MaxCells-1); got != 2*api.MaxSide-2 {
		t.Error(got)
	}
}

// P1.4: what a caller does to an answer turns no other one.
func TestAnswersAreNewMemory(t *testing.T) {
	m := parse(t, ".../.../.../")
	for name, ask := range map[string]func() []int{
		"All":  m.All,
		"Next": func() []int { return m.Next(4) },
		"Back": func() []int { return m.Back(4) },
	} {
		first, second := ask(), ask()
		kept := slices.Clone(first)
		for i := range first {
			first[i] = -7
		}
		_ = append(first[:1], -8)
		if !slices.Equal(second, kept) || !slices.Equal(ask(), kept) {
			t.Error(name, second, ask())
		}
	}
	if !m.Edge(4, 1) || m.Edges() != 24 || len(m.All()) != 9 {
		t.Error("the map turned")
	}
}

// P1.5, and with it P1.2 and P1.3 over many maps.
func TestWhatFollows(t *testing.T) {
	for _, s := range drawnMaps() {
		m := parse(t, s)
		if m.Text() != text(s) {
			t.Fatalf("Text of %q is %q", s, m.Text())
		}
		same := parse(t, m.Text())
		edges := 0
		for a := range m.Cells() {
			var next, back []int
			for b := range m.Cells() {
				is := edge(m, a, b)
				if m.Edge(a, b) != is || same.Edge(a, b) != is {
					t.Fatal(s, a, b, is)
				}
				if is {
					next = append(next, b)
					edges++
				}
				if is && m.Far(a, b) != 1 {
					t.Fatal(s, a, b, m.Far(a, b))
				}
				if edge(m, b, a) {
					back = append(back, b)
				}
				if m.Kind(a) == '.' && m.Kind(b) == '.' && m.Far(a, b) == 1 && (!m.Edge(a, b) || !m.Edge(b, a)) {
					t.Fatal(s, a, b, "not both ways")
				}
			}
			if !slices.Equal(m.Next(a), next) || !slices.Equal(m.Back(a), back) {
				t.Fatal(s, a, m.Next(a), m.Back(a))
			}
			if !slices.Equal(same.Next(a), next) || !slices.Equal(same.Back(a), back) || same.Kind(a) != m.Kind(a) {
				t.Fatal(s, a, "Parse of Text is another map")
			}
		}
		if m.Edges() != edges || same.Edges() != edges || !slices.Equal(m.All(), same.All()) {
			t.Fatal(s, m.Edges(), edges)
		}
	}
}

// Calls on none, and on a map that Parse did not make, answer 0, false, nothing.
func TestNoMap(t *testing.T) {
	for _, m := range []*grid.Map{nil, {}, new(grid.Map)} {
		if m.Text() != "" || m.Rows() != 0 || m.Cols() != 0 || m.Cells() != 0 || m.Edges() != 0 || len(m.All()) != 0 {
			t.Error(m.Text(), m.Rows(), m.Cols(), m.Cells(), m.Edges(), m.All())
		}
		for _, cell := range []int{0, 1, -1, api.MaxCells, math.MaxInt, math.MinInt} {
			if m.Free(cell) || m.Kind(cell) != 0 || len(m.Next(cell)) != 0 || len(m.Back(cell)) != 0 {
				t.Error(cell, m.Free(cell), m.Kind(cell), m.Next(cell), m.Back(cell))
			}
			if m.Edge(cell, 0) || m.Edge(0, cell) || m.Far(cell, 0) != 0 || m.Far(0, cell) != 0 || m.Far(cell, cell) != 0 {
				t.Error(cell, m.Edge(cell, 0), m.Far(cell, 0))
			}
		}
	}
}

// A map never turns: whoever asks first, and many at once, are answered the same.
func TestEdgesAreFoundOnce(t *testing.T) {
	s := strings.Repeat(strings.Repeat(".", api.MaxSide)+"/", api.MaxSide)
	want := 4 * api.MaxSide * (api.MaxSide - 1)
	m := parse(t, s)
	var all sync.WaitGroup
	var got [8]int
	for i := range got {
		all.Go(func() {
			for cell := range m.Cells() {
				if i%2 == 0 {
					got[i] += len(m.Next(cell))
				} else {
					got[i] += len(m.Back(cell))
				}
			}
		})
	}
	all.Wait()
	for i := range got {
		if got[i] != want {
			t.Error(i, got[i])
		}
	}
	for range 3 {
		if m.Edges() != want {
			t.Error(m.Edges())
		}
	}
	for name, first := range map[string]func(m *grid.Map) bool{
		"Edges": func(m *grid.Map) bool { return m.Edges() == 2 },
		"Edge":  func(m *grid.Map) bool { return m.Edge(0, 1) },
		"Next":  func(m *grid.Map) bool { return slices.Equal(m.Next(1), []int{0}) },
		"Back":  func(m *grid.Map) bool { return slices.Equal(m.Back(0), []int{1}) },
	} {
		if !first(parse(t, "../")) {
			t.Error(name, "asked first")
		}
	}
}
