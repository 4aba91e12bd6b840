package bag_test

import (
	"bytes"
	"math"
	"math/rand"
	"slices"
	"testing"

	"wagonway/api"
	"wagonway/bag"
)

// same says whether two packets are; no bytes are as nil ones.
func same(a, b api.Flight) bool {
	return a.N == b.N && a.From == b.From && a.To == b.To && a.Spoil == b.Spoil && bytes.Equal(a.Data, b.Data)
}

func zero(x api.Flight) bool { return same(x, api.Flight{}) && len(x.Data) == 0 }

// sent is a packet as it was sent.
func sent(n, from, to int, data string) api.Flight {
	return api.Flight{N: n, From: from, To: to, Data: []byte(data)}
}

// spoilt is a packet that was spoilt, with the bytes that it has now.
func spoilt(x api.Flight, data string) api.Flight {
	x.Data, x.Spoil = []byte(data), true
	return x
}

// bagged has packets 1 and on, each from its number to the next one, with these bytes.
func bagged(t *testing.T, data ...string) *bag.Bag {
	t.Helper()
	b := &bag.Bag{}
	for i, d := range data {
		if n := b.Send(i+1, i+2, []byte(d)); n != i+1 {
			t.Fatalf("Send = %d, not %d", n, i+1)
		}
	}
	return b
}

// full has MaxBag packets.
func full(t *testing.T) *bag.Bag {
	t.Helper()
	data := make([]string, 256)
	for i := range data {
		data[i] = string([]byte{byte(i), 'x'})
	}
	return bagged(t, data...)
}

// numbers are those of packets.
func numbers(l []api.Flight) []int {
	var all []int
	for _, x := range l {
		all = append(all, x.N)
	}
	return all
}

// expect holds all that may be asked of a bag against what it is to have.
func expect(t *testing.T, b *bag.Bag, flights []api.Flight, c api.Count) {
	t.Helper()
	if n := b.Len(); n != len(flights) {
		t.Fatalf("Len = %d, not %d", n, len(flights))
	}
	if all := b.All(); !slices.EqualFunc(all, flights, same) {
		t.Fatalf("All = %v, not %v", all, flights)
	}
	for _, x := range flights {
		if f, there := b.Find(x.N); !there || !same(f, x) {
			t.Fatalf("Find(%d) = %v %v, not %v", x.N, f, there, x)
		}
	}
	if n := b.Count(); n != c {
		t.Fatalf("Count = %+v, not %+v", n, c)
	}
}

// expectNot holds that a number is of no packet in flight, and that nothing turns by asking for it.
func expectNot(t *testing.T, b *bag.Bag, n int, want api.Errno) {
	t.Helper()
	all, c := b.All(), b.Count()
	if x, e := b.Deliver(n); !zero(x) || e != want {
		t.Errorf("Deliver(%d) = %v %v", n, x, e)
	}
	if e := b.Drop(n); e != want {
		t.Errorf("Drop(%d) = %v", n, e)
	}
	if k, e := b.Double(n); k != 0 || e != want {
		t.Errorf("Double(%d) = %d %v", n, k, e)
	}
	if e := b.Spoil(n, 0, 1); e != want {
		t.Errorf("Spoil(%d, 0, 1) = %v", n, e)
	}
	if x, there := b.Find(n); there || !zero(x) {
		t.Errorf("Find(%d) = %v %v", n, x, there)
	}
	expect(t, b, all, c)
}

// The chapter's examples.
func TestExamples(t *testing.T) {
	var b bag.Bag
	if n := b.Send(1, 2, []byte("ab")); n != 1 {
		t.Errorf("Send = %d", n)
	}
	if n, e := b.Double(1); n != 2 || e != api.OK {
		t.Errorf("Double(1) = %d %v", n, e)
	}
	if e := b.Spoil(1, 0, 2); e != api.OK {
		t.Errorf("Spoil = %v", e)
	}
	if e := b.Spoil(1, 0, 2); e != api.ErrBag {
		t.Errorf("Spoil again = %v", e)
	}
	if x, e := b.Deliver(1); e != api.OK || !same(x, spoilt(sent(1, 1, 2, ""), "cb")) {
		t.Errorf("Deliver(1) = %v %v", x, e)
	}
	if x, e := b.Deliver(1); e != api.ErrBag || !zero(x) {
		t.Errorf("Deliver(1) again = %v %v", x, e)
	}
	if n, e := b.Double(2); n != 3 || e != api.OK {
		t.Errorf("Double(2) = %d %v", n, e)
	}
	expect(t, &b, []api.Flight{sent(2, 1, 2, "ab"), sent(3, 1, 2, "ab")}, api.Count{Sent: 1, Delivered: 1, Doubled: 2, Spoilt: 1})
}

// P8.1: what is sent is in flight by the next number, whoever sends it to whom, with whatever bytes.
func TestSend(t *testing.T) {
	var b bag.Bag
	var want []api.Flight
	for i, x := range []api.Flight{
		sent(0, 0, 0, ""), sent(0, 63, 0, "\x00"), sent(0, -1, 64, "\xff\x00"),
		sent(0, math.MinInt, math.MaxInt, string(make([]byte, 100000))),
	} {
		if n := b.Send(x.From, x.To, x.Data); n != i+1 {
			t.Errorf("Send = %d, not %d", n, i+1)
		}
		x.N = i + 1
		want = append(want, x)
		expect(t, &b, want, api.Count{Sent: i + 1})
	}
	if n := b.Send(1, 2, nil); n != 5 {
		t.Errorf("Send of nothing = %d", n)
	}
	expect(t, &b, append(want, sent(5, 1, 2, "")), api.Count{Sent: 5})
}

// P8.1: Deliver tells the packet, the first, the last or one between, and takes just it out; Drop likewise.
func TestDeliverDrop(t *testing.T) {
	data := []string{"a", "b", "c", "d"}
	all := bagged(t, data...).All()
	for i := range data {
		n := i + 1
		left := slices.Delete(slices.Clone(all), i, i+1)
		b := bagged(t, data...)
		if x, e := b.Deliver(n); e != api.OK || !same(x, all[i]) {
			t.Errorf("Deliver(%d) = %v %v", n, x, e)
		}
		expect(t, b, left, api.Count{Sent: 4, Delivered: 1})
		expectNot(t, b, n, api.ErrBag)
		b = bagged(t, data...)
		if e := b.Drop(n); e != api.OK {
			t.Errorf("Drop(%d) = %v", n, e)
		}
		expect(t, b, left, api.Count{Sent: 4, Dropped: 1})
		expectNot(t, b, n, api.ErrBag)
	}
}

// P8.1: in whatever order packets are delivered, each is told once, with its own bytes.
func TestDeliverEveryOrder(t *testing.T) {
	data := []string{"a", "bb", "", "d", "e"}
	all := bagged(t, data...).All()
	var orders func(done, left []int)
	orders = func(done, left []int) {
		if len(left) == 0 {
			b := bagged(t, data...)
			for _, n := range done {
				if x, e := b.Deliver(n); e != api.OK || !same(x, all[n-1]) {
					t.Fatalf("%v: Deliver(%d) = %v %v", done, n, x, e)
				}
			}
			expect(t, b, nil, api.Count{Sent: 5, Delivered: 5})
		}
		for i := range left {
			orders(append(slices.Clone(done), left[i]), slices.Delete(slices.Clone(left), i, i+1))
		}
	}
	orders(nil, []int{1, 2, 3, 4, 5})
}

// Words: no number comes again, even if the bag is empty meanwhile.
func TestNumbersOnce(t *testing.T) {
	var b bag.Bag
	for n := 1; n <= 1000; n += 2 {
		if k := b.Send(n, 0, nil); k != n {
			t.Fatalf("Send = %d, not %d", k, n)
		}
		if k, e := b.Double(n); k != n+1 || e != api.OK {
			t.Fatalf("Double = %d %v, not %d", k, e, n+1)
		}
		if e := b.Drop(n + 1); e != api.OK {
			t.Fatalf("Drop = %v", e)
		}
		if x, e := b.Deliver(n); e != api.OK || x.N != n || x.From != n {
			t.Fatalf("Deliver = %v %v", x, e)
		}
		expectNot(t, &b, n, api.ErrBag)
	}
	expect(t, &b, nil, api.Count{Sent: 500, Delivered: 500, Dropped: 500, Doubled: 500})
}

// Errors: numbers that no packet had, or has yet.
func TestNoNumber(t *testing.T) {
	b := bagged(t, "a", "b")
	for _, n := range []int{0, -1, -2, 3, 4, 256, 257, 1<<32 + 1, math.MaxInt, math.MinInt} {
		expectNot(t, b, n, api.ErrBag)
		expectNot(t, &bag.Bag{}, n, api.ErrBag)
	}
	expectNot(t, &bag.Bag{}, 1, api.ErrBag)
}

// P8.1: a double comes behind all others, by a number of its own, and is a packet of its own.
func TestDouble(t *testing.T) {
	b := bagged(t, "ab", "cd", "ef")
	for i, of := range []int{1, 3, 4, 2} {
		if n, e := b.Double(of); n != i+4 || e != api.OK {
			t.Errorf("Double(%d) = %d %v", of, n, e)
		}
	}
	first, second, third := sent(1, 1, 2, "ab"), sent(2, 2, 3, "cd"), sent(3, 3, 4, "ef")
	want := []api.Flight{first, second, third, sent(4, 1, 2, "ab"), sent(5, 3, 4, "ef"), sent(6, 1, 2, "ab"), sent(7, 2, 3, "cd")}
	expect(t, b, want, api.Count{Sent: 3, Doubled: 4})
	if e := b.Drop(1); e != api.OK {
		t.Errorf("Drop(1) = %v", e)
	}
	if x, e := b.Deliver(6); e != api.OK || !same(x, want[5]) {
		t.Errorf("Deliver(6) = %v %v", x, e)
	}
	want = slices.Delete(slices.Delete(want, 5, 6), 0, 1)
	expect(t, b, want, api.Count{Sent: 3, Delivered: 1, Dropped: 1, Doubled: 4})
}

// P8.1, P8.2: a double is spoilt if the packet is, and then not once more; neither is spoilt by what befalls the other one later.
func TestDoubleOfSpoilt(t *testing.T) {
	b := bagged(t, "ab")
	for i, x := range []struct {
		do   func() (int, api.Errno)
		n    int
		want api.Errno
	}{
		{do: func() (int, api.Errno) { return b.Double(1) }, n: 2},
		{do: func() (int, api.Errno) { return 0, b.Spoil(1, 0, 1) }},
		{do: func() (int, api.Errno) { return b.Double(1) }, n: 3},
		{do: func() (int, api.Errno) { return 0, b.Spoil(3, 1, 1) }, want: api.ErrBag},
		{do: func() (int, api.Errno) { return 0, b.Spoil(2, 1, 1) }},
		{do: func() (int, api.Errno) { return b.Double(2) }, n: 4},
	} {
		if n, e := x.do(); n != x.n || e != x.want {
			t.Errorf("%d: %d %v", i, n, e)
		}
	}
	one := func(n int) api.Flight { return sent(n, 1, 2, "") }
	want := []api.Flight{spoilt(one(1), "`b"), spoilt(one(2), "ac"), spoilt(one(3), "`b"), spoilt(one(4), "ac")}
	expect(t, b, want, api.Count{Sent: 1, Doubled: 3, Spoilt: 2})
}

// P8.1, P8.3: the bag takes MaxBag packets; one more is lost, and takes no number.
func TestFull(t *testing.T) {
	b := full(t)
	all := b.All()
	c := api.Count{Sent: 256}
	expect(t, b, all, c)
	for range 3 {
		if n := b.Send(7, 8, []byte("lost")); n != 0 {
			t.Fatalf("Send = %d", n)
		}
		c.Sent++
		c.Lost++
		expect(t, b, all, c)
		if n, e := b.Double(256); n != 0 || e != api.OK {
			t.Fatalf("Double = %d %v", n, e)
		}
		c.Doubled++
		c.Lost++
		expect(t, b, all, c)
	}
	expectNot(t, b, 257, api.ErrBag)
	expectNot(t, b, 0, api.ErrBag)
	if e := b.Spoil(256, 1, 1); e != api.OK {
		t.Errorf("Spoil = %v", e)
	}
	if e := b.Drop(100); e != api.OK {
		t.Errorf("Drop = %v", e)
	}
	if n, e := b.Double(256); n != 257 || e != api.OK {
		t.Errorf("Double = %d %v", n, e)
	}
	if x, e := b.Deliver(1); e != api.OK || !same(x, all[0]) {
		t.Errorf("Deliver = %v %v", x, e)
	}
	if n := b.Send(7, 8, []byte("in")); n != 258 {
		t.Errorf("Send = %d", n)
	}
	if n := b.Send(7, 8, []byte("lost")); n != 0 {
		t.Errorf("Send = %d", n)
	}
	last := spoilt(all[255], "\xffy")
	double := last
	double.N = 257
	want := slices.Concat(all[1:99], all[100:255], []api.Flight{last, double, sent(258, 7, 8, "in")})
	expect(t, b, want, api.Count{Sent: 261, Delivered: 1, Dropped: 1, Doubled: 4, Spoilt: 1, Lost: 7})
}

// P8.2: the byte at that place is that one exclusive or with, and no other one turns.
func TestSpoil(t *testing.T) {
	for at := range 3 {
		for with := 1; with < 256; with++ {
			b := bagged(t, "\x00\x7f\xff", "\x00\x7f\xff")
			if e := b.Spoil(1, at, byte(with)); e != api.OK {
				t.Fatalf("Spoil(1, %d, %d) = %v", at, with, e)
			}
			data := []byte("\x00\x7f\xff")
			data[at] ^= byte(with)
			want := []api.Flight{spoilt(sent(1, 1, 2, ""), string(data)), sent(2, 2, 3, "\x00\x7f\xff")}
			expect(t, b, want, api.Count{Sent: 2, Spoilt: 1})
		}
	}
}

// P8.2: places that there are not, 0, a packet without bytes, and one that was spoilt: nothing turns by these.
func TestSpoilErrors(t *testing.T) {
	b := bagged(t, "abc", "", "d")
	if e := b.Spoil(3, 0, 4); e != api.OK {
		t.Fatalf("Spoil = %v", e)
	}
	want, c := b.All(), api.Count{Sent: 3, Spoilt: 1}
	for _, x := range []struct {
		n, at int
		with  byte
	}{
		{1, -1, 1}, {1, 3, 1}, {1, 4, 1}, {1, math.MaxInt, 1}, {1, math.MinInt, 1}, {1, 1 << 32, 1},
		{1, 0, 0}, {1, 2, 0}, {2, 0, 1}, {2, -1, 1}, {2, 0, 0}, {3, 0, 4}, {3, 0, 1}, {3, 1, 1}, {3, 0, 0},
	} {
		if e := b.Spoil(x.n, x.at, x.with); e != api.ErrBag {
			t.Errorf("Spoil(%d, %d, %d) = %v", x.n, x.at, x.with, e)
		}
		expect(t, b, want, c)
	}
	if e := b.Spoil(1, 2, 255); e != api.OK {
		t.Errorf("Spoil behind errors = %v", e)
	}
}

// P8.4: the bytes that were sent may be written to later.
func TestHandedIn(t *testing.T) {
	var b bag.Bag
	data := []byte("abcd")
	b.Send(1, 2, data[:2])
	b.Send(1, 2, data[1:3])
	b.Spoil(1, 1, 3)
	b.Double(1)
	if string(data) != "abcd" {
		t.Errorf("what was handed in is %q", data)
	}
	copy(data, "xxxx")
	one := func(n int) api.Flight { return sent(n, 1, 2, "bc") }
	expect(t, &b, []api.Flight{spoilt(one(1), "aa"), one(2), spoilt(one(3), "aa")}, api.Count{Sent: 2, Doubled: 1, Spoilt: 1})
}

// P8.4: what is answered may be written to, and added to; nothing turns by it, neither the bag nor what else was answered.
func TestNewMemory(t *testing.T) {
	b := bagged(t, "ab", "cd", "ef", "")
	want, c := b.All(), b.Count()
	write := func(x api.Flight) {
		data := x.Data[:cap(x.Data)]
		for i := range data {
			data[i] = 'x'
		}
	}
	all := b.All()
	for _, x := range all[:cap(all)] {
		write(x)
	}
	for i := range all {
		all[i] = api.Flight{N: -7}
	}
	expect(t, b, want, c)
	for n := 1; n <= 4; n++ {
		x, _ := b.Find(n)
		write(x)
		expect(t, b, want, c)
	}
	earlier, _ := b.Find(2)
	double, _ := b.Double(2)
	x, _ := b.Deliver(2)
	write(x)
	if string(earlier.Data) != "cd" {
		t.Errorf("an earlier Find = %q", earlier.Data)
	}
	held := b.All()
	if e := b.Spoil(double, 0, 1); e != api.OK {
		t.Errorf("Spoil = %v", e)
	}
	first, _ := b.Deliver(1)
	b.Send(9, 9, []byte("gh"))
	if !same(first, want[0]) || !slices.EqualFunc(held, []api.Flight{want[0], want[2], want[3], sent(double, 2, 3, "cd")}, same) {
		t.Errorf("earlier answers: %v %v", first, held)
	}
}

// model is a bag by the chapter's words: every packet that ever came, and what became of it.
type model struct {
	came  []*fate
	count api.Count
}

type fate struct {
	api.Flight
	origin []byte // as it was sent
	gone   bool
}

func (m *model) flying() []*fate {
	var l []*fate
	for _, f := range m.came {
		if !f.gone {
			l = append(l, f)
		}
	}
	return l
}

func (m *model) find(n int) *fate {
	for _, f := range m.flying() {
		if f.N == n {
			return f
		}
	}
	return nil
}

func (m *model) come(x fate) int {
	if len(m.flying()) == 256 {
		m.count.Lost++
		return 0
	}
	x.N = len(m.came) + 1
	x.Data = slices.Clone(x.Data)
	m.came = append(m.came, &x)
	return x.N
}

// turn does the same, drawn, to a bag and to its model; sending says how often of ten something is sent.
func (m *model) turn(t *testing.T, b *bag.Bag, r *rand.Rand, sending int) {
	t.Helper()
	n := r.Intn(len(m.came)+3) - 1
	if l := m.flying(); len(l) > 0 && r.Intn(4) > 0 {
		n = l[r.Intn(len(l))].N
	}
	f, want := m.find(n), api.OK
	if f == nil {
		want = api.ErrBag
	}
	draw := r.Intn(10)
	if draw < sending {
		x := fate{Flight: api.Flight{From: r.Intn(4), To: r.Intn(4), Data: make([]byte, r.Intn(5))}}
		r.Read(x.Data)
		x.origin = slices.Clone(x.Data)
		m.count.Sent++
		if k, w := b.Send(x.From, x.To, x.Data), m.come(x); k != w {
			t.Fatalf("Send = %d, not %d", k, w)
		}
		return
	}
	switch r.Intn(4) {
	case 0:
		x, e := b.Deliver(n)
		if e != want || f == nil && !zero(x) || f != nil && !same(x, f.Flight) {
			t.Fatalf("Deliver(%d) = %v %v", n, x, e)
		}
		if f != nil {
			f.gone = true
			m.count.Delivered++
		}
	case 1:
		if e := b.Drop(n); e != want {
			t.Fatalf("Drop(%d) = %v", n, e)
		}
		if f != nil {
			f.gone = true
			m.count.Dropped++
		}
	case 2:
		w := 0
		if f != nil {
			m.count.Doubled++
			w = m.come(*f)
		}
		if k, e := b.Double(n); k != w || e != want {
			t.Fatalf("Double(%d) = %d %v, not %d", n, k, e, w)
		}
	case 3:
		at, with := r.Intn(7)-1, byte(r.Intn(5))
		if f == nil || f.Spoil || at < 0 || at >= len(f.Data) || with == 0 {
			want = api.ErrBag
		} else {
			f.Data[at], f.Spoil = f.Data[at]^with, true
			m.count.Spoilt++
		}
		if e := b.Spoil(n, at, with); e != want {
			t.Fatalf("Spoil(%d, %d, %d) = %v", n, at, with, e)
		}
	}
}

// follows holds what follows of the bag's own answers, and of what was sent.
func (m *model) follows(t *testing.T, b *bag.Bag) {
	t.Helper()
	c := b.Count()
	if left := c.Sent + c.Doubled - c.Delivered - c.Dropped - c.Lost; left != b.Len() || left != len(b.All()) || left > 256 {
		t.Fatalf("%d in flight, of %+v", b.Len(), c)
	}
	for _, x := range b.All() {
		other := 0
		origin := m.came[x.N-1].origin
		if len(origin) != len(x.Data) {
			t.Fatalf("%v was sent as %v", x, origin)
		}
		for i := range origin {
			if origin[i] != x.Data[i] {
				other++
			}
		}
		if x.Spoil && other != 1 || !x.Spoil && other != 0 {
			t.Fatalf("%v was sent as %v", x, origin)
		}
	}
}

// P8.1 to P8.3, P8.5: whatever is done, one behind the other, against the model: bags that grow full, and bags that stay small.
func TestAgainstModel(t *testing.T) {
	for seed := range int64(12) {
		r := rand.New(rand.NewSource(seed))
		b, m := &bag.Bag{}, &model{}
		for range 1200 {
			m.turn(t, b, r, 2+int(seed%4)*2)
			var want []api.Flight
			for _, f := range m.flying() {
				want = append(want, f.Flight)
			}
			expect(t, b, want, m.count)
			m.follows(t, b)
		}
	}
}

// Types: one that nobody made is empty, and takes some.
func TestNobodyMade(t *testing.T) {
	var b bag.Bag
	expect(t, &b, nil, api.Count{})
	expectNot(t, &b, 0, api.ErrBag)
	expectNot(t, &b, 1, api.ErrBag)
	if n := b.Send(0, 1, []byte{5}); n != 1 {
		t.Errorf("Send = %d", n)
	}
	expect(t, &b, []api.Flight{sent(1, 0, 1, "\x05")}, api.Count{Sent: 1})
}

// Types: none answers ErrNil, ahead of all other errors, or nothing, whatever is sent there.
func TestNone(t *testing.T) {
	var b *bag.Bag
	for range 2 {
		expect(t, b, nil, api.Count{})
		for _, n := range []int{math.MinInt, -1, 0, 1, 2, math.MaxInt} {
			expectNot(t, b, n, api.ErrNil)
			if e := b.Spoil(n, -1, 0); e != api.ErrNil {
				t.Errorf("Spoil(%d, -1, 0) = %v", n, e)
			}
		}
		if n := b.Send(1, 2, []byte("ab")); n != 0 {
			t.Errorf("Send = %d", n)
		}
	}
}

// Words: packets stand in the order in which they came, whatever is taken out between.
func TestOrder(t *testing.T) {
	b := full(t)
	for n := 1; n <= 256; n += 3 {
		b.Drop(n)
	}
	var want []int
	for n := 1; n <= 256; n++ {
		if n%3 != 1 {
			want = append(want, n)
		}
	}
	for n := 257; n <= 300; n++ {
		b.Send(0, 1, nil)
		want = append(want, n)
	}
	if l := numbers(b.All()); !slices.Equal(l, want) {
		t.Errorf("All has %v, not %v", l, want)
	}
}
