package graph_test

import (
	"math"
	"math/rand"
	"slices"
	"testing"

	"wagonway/api"
	"wagonway/graph"
)

type edge [2]int

func made(t *testing.T, n int, edges ...edge) *graph.Graph {
	t.Helper()
	g, e := graph.New(n)
	if g == nil || e != api.OK {
		t.Fatalf("New(%d) = %v %v", n, g, e)
	}
	for _, x := range edges {
		if e := g.Add(x[0], x[1]); e != api.OK {
			t.Fatalf("Add(%d, %d) = %v", x[0], x[1], e)
		}
	}
	return g
}

// example is the chapter's.
func example(t *testing.T) *graph.Graph {
	return made(t, 6, edge{0, 1}, edge{1, 2}, edge{2, 0}, edge{2, 3}, edge{3, 4})
}

// drawn are edges out of draws, in no order.
func drawn(r *rand.Rand, n, most int) []edge {
	var edges []edge
	for range most {
		if a, b := r.Intn(n), r.Intn(n); a != b {
			edges = append(edges, edge{a, b})
		}
	}
	return edges
}

// drawnGraphs are graphs of few nodes and of more, with hardly an edge and with nearly all.
func drawnGraphs(t *testing.T) []*graph.Graph {
	r := rand.New(rand.NewSource(2))
	all := []*graph.Graph{made(t, 0), made(t, 1), made(t, 2), example(t)}
	for n := 2; n <= 14; n++ {
		for _, most := range []int{n / 2, n, n + n/2, 2 * n, n * n} {
			for range 8 {
				all = append(all, made(t, n, drawn(r, n, most)...))
			}
		}
	}
	return all
}

// lengths are those of the shortest ways between any two, by the edges alone; -1 where there is none.
func lengths(g *graph.Graph) [][]int {
	n := g.Len()
	far := make([][]int, n)
	for a := range n {
		far[a] = make([]int, n)
		for b := range n {
			switch {
			case a == b:
				far[a][b] = 0
			case g.Has(a, b):
				far[a][b] = 1
			default:
				far[a][b] = -1
			}
		}
	}
	for by := range n {
		for a := range n {
			for b := range n {
				if far[a][by] < 0 || far[by][b] < 0 {
					continue
				}
				if sum := far[a][by] + far[by][b]; far[a][b] < 0 || sum < far[a][b] {
					far[a][b] = sum
				}
			}
		}
	}
	return far
}

// parts is how many there are, with one node left out (none, if it is -1).
func parts(g *graph.Graph, without int) int {
	n := g.Len()
	part := make([]int, n)
	for node := range n {
		part[node] = node
	}
	for range n {
		for a := range n {
			for b := range n {
				if a != without && b != without && g.Has(a, b) {
					part[a] = min(part[a], part[b])
					part[b] = part[a]
				}
			}
		}
	}
	count := 0
	for node := range n {
		if node != without && part[node] == node {
			count++
		}
	}
	return count
}

// strong are the strong parts' numbers, by the chapter's own words.
func strong(far [][]int) []int {
	numbers := make([]int, len(far))
	count := 0
nodes:
	for a := range far {
		for b := range a {
			if far[a][b] >= 0 && far[b][a] >= 0 {
				numbers[a] = numbers[b]
				continue nodes
			}
		}
		numbers[a] = count
		count++
	}
	return numbers
}

// joints are those without which more parts are left than there were; a node by itself leaves one less.
func joints(g *graph.Graph) []int {
	var all []int
	whole := parts(g, -1)
	for node := range g.Len() {
		if parts(g, node) > whole {
			all = append(all, node)
		}
	}
	return all
}

// P2.1: how many nodes there may be.
func TestNew(t *testing.T) {
	for _, n := range []int{0, 1, 2, 100, api.MaxCells} {
		g := made(t, n)
		if g.Len() != n {
			t.Errorf("New(%d): Len = %d", n, g.Len())
		}
		for a := range n {
			if l := g.Out(a); len(l) > 0 {
				t.Errorf("New(%d): Out(%d) = %v", n, a, l)
			}
		}
		if g.Has(0, 1) {
			t.Errorf("New(%d) has an edge", n)
		}
	}
	for _, n := range []int{-1, math.MinInt, api.MaxCells + 1, math.MaxInt} {
		if g, e := graph.New(n); g != nil || e != api.ErrGraph {
			t.Errorf("New(%d) = %v %v", n, g, e)
		}
	}
}

// P2.1: an edge is there once it was added, one way, and once only.
func TestAdd(t *testing.T) {
	r := rand.New(rand.NewSource(3))
	for _, n := range []int{2, 3, 9, 30} {
		g := made(t, n)
		there := map[edge]bool{}
		for range 3 * n {
			a, b := r.Intn(n), r.Intn(n)
			want := api.OK
			if a == b {
				want = api.ErrGraph
			}
			if e := g.Add(a, b); e != want {
				t.Fatalf("Add(%d, %d) = %v", a, b, e)
			}
			there[edge{a, b}] = a != b
		}
		for a := range n {
			var out []int
			for b := range n {
				if g.Has(a, b) != there[edge{a, b}] {
					t.Errorf("Has(%d, %d) = %v", a, b, g.Has(a, b))
				}
				if there[edge{a, b}] {
					out = append(out, b)
				}
			}
			if l := g.Out(a); !slices.Equal(l, out) {
				t.Errorf("Out(%d) = %v, not %v", a, l, out)
			}
		}
	}
}

// P2.1: what is no edge isn't added; nothing turns by it.
func TestAddWrong(t *testing.T) {
	g := made(t, 3, edge{0, 1})
	for _, x := range []edge{
		{0, 3}, {3, 0}, {-1, 0}, {0, -1}, {0, 0}, {2, 2}, {3, 3}, {-1, -1},
		{math.MinInt, 0}, {0, math.MinInt}, {math.MaxInt, 0}, {0, math.MaxInt},
	} {
		if e := g.Add(x[0], x[1]); e != api.ErrGraph {
			t.Errorf("Add(%d, %d) = %v", x[0], x[1], e)
		}
		if g.Has(x[0], x[1]) {
			t.Errorf("Has(%d, %d)", x[0], x[1])
		}
	}
	if g.Len() != 3 || !slices.Equal(g.Out(0), []int{1}) || len(g.Out(1))+len(g.Out(2)) > 0 {
		t.Errorf("%d nodes, %v %v %v", g.Len(), g.Out(0), g.Out(1), g.Out(2))
	}
	empty := made(t, 0)
	if e := empty.Add(0, 0); e != api.ErrGraph {
		t.Errorf("Add to none = %v", e)
	}
}

// P2.1, P2.2: of what is no node there is nothing.
func TestNoNode(t *testing.T) {
	g := made(t, 3, edge{0, 1}, edge{1, 2}, edge{2, 0})
	for _, a := range []int{-1, 3, math.MinInt, math.MaxInt} {
		if o, d, r := g.Out(a), g.Dist(a), g.Reach(a); len(o)+len(d)+len(r) > 0 {
			t.Errorf("of %d: %v %v %v", a, o, d, r)
		}
	}
}

// P2.1: the graph back has each edge the other way, and no other one.
func TestBack(t *testing.T) {
	for _, g := range drawnGraphs(t) {
		back := g.Back()
		if back == nil || back.Len() != g.Len() {
			t.Fatalf("Back of %d nodes = %v", g.Len(), back)
		}
		for a := range g.Len() {
			var out []int
			for b := range g.Len() {
				if back.Has(a, b) != g.Has(b, a) {
					t.Errorf("back.Has(%d, %d) = %v", a, b, back.Has(a, b))
				}
				if g.Has(b, a) {
					out = append(out, b)
				}
			}
			if l := back.Out(a); !slices.Equal(l, out) {
				t.Errorf("back.Out(%d) = %v, not %v", a, l, out)
			}
			if l := back.Back().Out(a); !slices.Equal(l, g.Out(a)) {
				t.Errorf("back.Back().Out(%d) = %v", a, l)
			}
		}
	}
}

// The chapter's examples.
func TestExamples(t *testing.T) {
	g := example(t)
	for _, x := range []struct {
		name      string
		got, want []int
	}{
		{"Dist(1)", g.Dist(1), []int{2, 0, 1, 2, 3, -1}},
		{"Reach(3)", g.Reach(3), []int{3, 4}},
		{"Strong", g.Strong(), []int{0, 0, 0, 1, 2, 3}},
		{"Joints", g.Joints(), []int{2, 3}},
	} {
		if !slices.Equal(x.got, x.want) {
			t.Errorf("%s = %v", x.name, x.got)
		}
	}
}

// P2.2: lengths of ways, and who is reached, against all ways that there are.
func TestDistReach(t *testing.T) {
	for _, g := range drawnGraphs(t) {
		for a, far := range lengths(g) {
			if l := g.Dist(a); !slices.Equal(l, far) {
				t.Errorf("Dist(%d) = %v, not %v", a, l, far)
			}
			var reach []int
			for b := range far {
				if far[b] >= 0 {
					reach = append(reach, b)
				}
			}
			if l := g.Reach(a); !slices.Equal(l, reach) {
				t.Errorf("Reach(%d) = %v, not %v", a, l, reach)
			}
		}
	}
}

// P2.3: strong parts and joints, against the chapter's own words.
func TestStrongJoints(t *testing.T) {
	for _, g := range drawnGraphs(t) {
		if l, want := g.Strong(), strong(lengths(g)); !slices.Equal(l, want) {
			t.Errorf("Strong = %v, not %v", l, want)
		}
		if l, want := g.Joints(), joints(g); !slices.Equal(l, want) {
			t.Errorf("Joints = %v, not %v", l, want)
		}
	}
}

// P2.3: strong parts are numbered by their least nodes, wherever edges lead first.
func TestStrongNumbers(t *testing.T) {
	g := made(t, 7, edge{6, 2}, edge{2, 6}, edge{2, 0}, edge{5, 1}, edge{1, 5}, edge{0, 1}, edge{4, 3})
	if l := g.Strong(); !slices.Equal(l, []int{0, 1, 2, 3, 4, 1, 2}) {
		t.Errorf("Strong = %v", l)
	}
}

// P2.3: where a part falls apart, edges counted both ways.
func TestJointsShapes(t *testing.T) {
	for _, x := range []struct {
		name  string
		n     int
		edges []edge
		want  []int
	}{
		{"no node", 0, nil, nil},
		{"nodes by themselves", 3, nil, nil},
		{"two joined", 2, []edge{{0, 1}}, nil},
		{"two joined both ways", 2, []edge{{0, 1}, {1, 0}}, nil},
		{"a row", 4, []edge{{0, 1}, {1, 2}, {2, 3}}, []int{1, 2}},
		{"a row, edges against each other", 4, []edge{{0, 1}, {2, 1}, {2, 3}}, []int{1, 2}},
		{"a row, both ways", 3, []edge{{0, 1}, {1, 0}, {1, 2}, {2, 1}}, []int{1}},
		{"a star round the first", 4, []edge{{0, 1}, {0, 2}, {0, 3}}, []int{0}},
		{"a star round the last", 4, []edge{{0, 3}, {1, 3}, {2, 3}}, []int{3}},
		{"a ring", 4, []edge{{0, 1}, {1, 2}, {2, 3}, {3, 0}}, nil},
		{"a ring, one edge turned", 4, []edge{{0, 1}, {1, 2}, {2, 3}, {0, 3}}, nil},
		{"two rings with a node in common", 5, []edge{{0, 1}, {1, 2}, {2, 0}, {2, 3}, {3, 4}, {4, 2}}, []int{2}},
		{"two rings with a bridge", 6, []edge{{0, 1}, {1, 2}, {2, 0}, {3, 4}, {4, 5}, {5, 3}, {5, 0}}, []int{0, 5}},
		{"two rows, and one alone", 7, []edge{{0, 2}, {2, 4}, {1, 3}, {3, 5}}, []int{2, 3}},
	} {
		if l := made(t, x.n, x.edges...).Joints(); !slices.Equal(l, x.want) {
			t.Errorf("%s: Joints = %v, not %v", x.name, l, x.want)
		}
	}
}

// P2.2, P2.3: as many nodes as there may be, in a row, in a ring, and all joined one way.
func TestGreatest(t *testing.T) {
	n := api.MaxCells
	row, ring, all := made(t, n), made(t, n), made(t, n)
	for a := range n {
		if a > 0 {
			row.Add(a-1, a)
		}
		ring.Add(a, (a+1)%n)
		for b := range a {
			all.Add(b, a)
		}
	}
	if d := row.Dist(0); d[n-1] != n-1 {
		t.Errorf("row: %d to the last", d[n-1])
	}
	if r := row.Reach(n - 1); !slices.Equal(r, []int{n - 1}) {
		t.Errorf("row: Reach of the last = %v", r)
	}
	if s := row.Strong(); s[n-1] != n-1 {
		t.Errorf("row: the last one's part is %d", s[n-1])
	}
	if j := row.Joints(); len(j) != n-2 || j[0] != 1 || j[n-3] != n-2 {
		t.Errorf("row: %d joints", len(j))
	}
	if d := ring.Dist(1); d[0] != n-1 {
		t.Errorf("ring: %d to the one behind", d[0])
	}
	if s, j := ring.Strong(), ring.Joints(); slices.Max(s) != 0 || len(j) > 0 {
		t.Errorf("ring: %d parts, joints %v", slices.Max(s)+1, j)
	}
	if s, j := all.Strong(), all.Joints(); s[n-1] != n-1 || len(j) > 0 {
		t.Errorf("all: the last one's part is %d, joints %v", s[n-1], j)
	}
}

// P2.4: what is answered may be written to; nothing turns by it.
func TestNewMemory(t *testing.T) {
	g := example(t)
	asks := map[string]func() []int{
		"Out":    func() []int { return g.Out(2) },
		"Dist":   func() []int { return g.Dist(1) },
		"Reach":  func() []int { return g.Reach(1) },
		"Strong": g.Strong,
		"Joints": g.Joints,
	}
	first := map[string][]int{}
	for name, ask := range asks {
		first[name] = slices.Clone(ask())
	}
	for _, ask := range asks {
		l := ask()
		for i := range l[:cap(l)] {
			l[:cap(l)][i] = 77
		}
	}
	for name, ask := range asks {
		if l := ask(); !slices.Equal(l, first[name]) {
			t.Errorf("%s = %v, not %v", name, l, first[name])
		}
	}
}

// P2.4: a graph and the graph back are two.
func TestBackIsNew(t *testing.T) {
	g := example(t)
	back := g.Back()
	back.Add(5, 0)
	g.Add(1, 5)
	if g.Has(5, 0) || g.Has(0, 5) || back.Has(1, 5) || back.Has(5, 1) {
		t.Errorf("%v %v", g.Out(0), back.Out(5))
	}
	if l := g.Out(1); !slices.Equal(l, []int{2, 5}) {
		t.Errorf("Out(1) = %v", l)
	}
}

// P2.2, P2.3: an edge that is added later counts.
func TestAddLater(t *testing.T) {
	g := example(t)
	g.Dist(0)
	g.Strong()
	g.Joints()
	g.Add(4, 0)
	g.Add(4, 5)
	if d, s, j := g.Dist(0), g.Strong(), g.Joints(); !slices.Equal(d, []int{0, 1, 2, 3, 4, 5}) ||
		!slices.Equal(s, []int{0, 0, 0, 0, 0, 1}) || !slices.Equal(j, []int{4}) {
		t.Errorf("%v %v %v", d, s, j)
	}
}

// P2.5: what follows.
func TestWhatFollows(t *testing.T) {
	for _, g := range drawnGraphs(t) {
		back := g.Back()
		if !slices.Equal(back.Strong(), g.Strong()) || !slices.Equal(back.Joints(), g.Joints()) {
			t.Errorf("back: %v %v, not %v %v", back.Strong(), back.Joints(), g.Strong(), g.Joints())
		}
		for a := range g.Len() {
			dist := g.Dist(a)
			for b := range g.Len() {
				for _, c := range g.Out(b) {
					if dist[b] >= 0 && (dist[c] < 0 || dist[c] > dist[b]+1) {
						t.Errorf("Dist(%d): %d to %d, %d to %d", a, dist[b], b, dist[c], c)
					}
				}
				if slices.Contains(g.Reach(a), b) != slices.Contains(back.Reach(b), a) {
					t.Errorf("reach of %d and %d doesn't turn round", a, b)
				}
			}
		}
	}
}

// Types: none, and one that nobody made, have no nodes.
func TestNobodyMade(t *testing.T) {
	for _, g := range []*graph.Graph{nil, {}} {
		if e := g.Add(0, 1); e != api.ErrGraph {
			t.Errorf("Add = %v", e)
		}
		if g.Len() != 0 || g.Has(0, 1) || g.Back().Len() != 0 {
			t.Errorf("%d nodes, %d back", g.Len(), g.Back().Len())
		}
		for name, l := range map[string][]int{
			"Out": g.Out(0), "Dist": g.Dist(0), "Reach": g.Reach(0), "Strong": g.Strong(), "Joints": g.Joints(),
		} {
			if len(l) > 0 {
				t.Errorf("%s = %v", name, l)
			}
		}
	}
}
