package shelf_test

import (
	"bytes"
	"math"
	"math/rand"
	"slices"
	"strings"
	"testing"

	"wagonway/api"
	"wagonway/shelf"
)

// These are limits as the chapter writes them out.
const (
	maxKind    = 255
	maxN       = 1024
	maxRecord  = 1024
	maxRecords = 4096
)

// one is a record, as the chapter's examples write it: kind, N, Data.
func one(kind, n int, data string) api.Record {
	return api.Record{Kind: kind, N: n, Data: []byte(data)}
}

// long is Data of so many bytes.
func long(size int) string { return strings.Repeat("x", size) }

// same says whether two records are; no Data is as nil.
func same(a, b api.Record) bool {
	return a.Kind == b.Kind && a.N == b.N && bytes.Equal(a.Data, b.Data)
}

// model is what a shelf is to have: its records by Kind, then N, rising.
type model []api.Record

// behind is a model with one record more, one in another one's place, or one fewer. It is another one, and takes any record.
func (m model) behind(r api.Record) model {
	var out model
	in := len(r.Data) > 0
	for _, x := range m {
		if in && (r.Kind < x.Kind || r.Kind == x.Kind && r.N <= x.N) {
			out, in = append(out, r), false
		}
		if x.Kind != r.Kind || x.N != r.N {
			out = append(out, x)
		}
	}
	if in {
		out = append(out, r)
	}
	return out
}

func (m model) get(kind, n int) (string, bool) {
	for _, x := range m {
		if x.Kind == kind && x.N == n {
			return string(x.Data), true
		}
	}
	return "", false
}

func (m model) of(kind int) model {
	var out model
	for _, x := range m {
		if x.Kind == kind {
			out = append(out, x)
		}
	}
	return out
}

// bytes are written out by division, one by one.
func (m model) bytes() []byte {
	var b bytes.Buffer
	for _, x := range m {
		for _, n := range []int{x.Kind, x.N / 256, x.N % 256, len(x.Data) / 256, len(x.Data) % 256} {
			b.WriteByte(byte(n))
		}
		b.Write(x.Data)
	}
	return b.Bytes()
}

// write writes records that may be written, one by one.
func write(t *testing.T, s *shelf.Shelf, l ...api.Record) {
	t.Helper()
	for _, r := range l {
		if e := s.Write(r); e != api.OK {
			t.Fatalf("Write(%d, %d, %q) = %v", r.Kind, r.N, r.Data, e)
		}
	}
}

func shelfOf(t *testing.T, l ...api.Record) *shelf.Shelf {
	t.Helper()
	s := &shelf.Shelf{}
	write(t, s, l...)
	return s
}

// full has MaxRecords records: kinds 0 to 3, with N from 0 to 1023 each.
func full(t *testing.T) (*shelf.Shelf, model) {
	t.Helper()
	var m model
	for kind := range 4 {
		for n := range 1024 {
			m = append(m, one(kind, n, string([]byte{byte(kind), byte(n)})))
		}
	}
	return shelfOf(t, m...), m
}

// expectOf holds what a shelf tells of a kind, and of some of its numbers, against its model.
func expectOf(t *testing.T, s *shelf.Shelf, m model, kind int) {
	t.Helper()
	if l := s.Of(kind); !slices.EqualFunc(l, m.of(kind), same) {
		t.Fatalf("Of(%d) = %v, not %v", kind, l, m.of(kind))
	}
	for _, n := range []int{math.MinInt, -65536, -1, 0, 1, 2, 5, 255, 256, 1023, 1024, 1025, 65536, 65541, math.MaxInt} {
		want, is := m.get(kind, n)
		if data, there := s.Get(kind, n); string(data) != want || there != is || !there && data != nil {
			t.Fatalf("Get(%d, %d) = %q %v, not %q %v", kind, n, data, there, want, is)
		}
	}
}

// expect holds all that a shelf tells against its model.
func expect(t *testing.T, s *shelf.Shelf, m model) {
	t.Helper()
	if l := s.All(); !slices.EqualFunc(l, m, same) {
		t.Fatalf("All = %v, not %v", l, m)
	}
	if n := s.Len(); n != len(m) {
		t.Fatalf("Len = %d, not %d", n, len(m))
	}
	if b := s.Bytes(); !bytes.Equal(b, m.bytes()) {
		t.Fatalf("Bytes = %v, not %v", b, m.bytes())
	}
	for _, kind := range []int{math.MinInt, -1, 0, 1, 2, 3, 127, 128, 254, 255, 256, 257, math.MaxInt} {
		expectOf(t, s, m, kind)
	}
	for i := 0; i < len(m); i += 1 + len(m)/50 {
		r := m[i]
		if data, there := s.Get(r.Kind, r.N); !bytes.Equal(data, r.Data) || !there {
			t.Fatalf("Get(%d, %d) = %q %v, not %q", r.Kind, r.N, data, there, r.Data)
		}
	}
}

// refuse holds that a record is not written, and that nothing turns by it.
func refuse(t *testing.T, s *shelf.Shelf, r api.Record, want api.Errno) {
	t.Helper()
	b := s.Bytes()
	if e := s.Write(r); e != want {
		t.Errorf("Write(%d, %d, %d bytes) = %v, not %v", r.Kind, r.N, len(r.Data), e, want)
	}
	if !bytes.Equal(s.Bytes(), b) {
		t.Errorf("Write(%d, %d, %d bytes) was refused, and turned the shelf", r.Kind, r.N, len(r.Data))
	}
}

// readNot holds that bytes are no shelf's.
func readNot(t *testing.T, b []byte) {
	t.Helper()
	if s, e := shelf.Read(b); s != nil || e != api.ErrShelf {
		t.Errorf("Read(%d bytes, %v ..) = %v %v", len(b), b[:min(len(b), 20)], s, e)
	}
}

func read(t *testing.T, b []byte, m model) {
	t.Helper()
	s, e := shelf.Read(b)
	if s == nil || e != api.OK {
		t.Fatalf("Read(%d bytes) = %v %v", len(b), s, e)
	}
	expect(t, s, m)
}

// mayNot are records that may not be.
func mayNot() []api.Record {
	return []api.Record{
		one(-1, 0, "a"), one(256, 0, "a"), one(math.MinInt, 0, "a"), one(math.MaxInt, 0, "a"), one(1<<32, 0, "a"),
		one(0, -1, "a"), one(0, 1025, "a"), one(0, math.MinInt, "a"), one(0, math.MaxInt, "a"), one(0, 1<<32, "a"), one(0, 65536, "a"), one(1, -65536, "a"),
		one(0, 0, long(1025)), one(255, 1024, long(1025)), one(0, 0, long(65536)), one(0, 0, long(1<<20)),
		one(-1, 0, ""), one(256, 0, ""), one(0, -1, ""), one(0, 1025, ""), one(-1, 1025, long(1025)),
	}
}

// may are records that may be, at the edges; all are of other kinds or numbers.
func may() []api.Record {
	return []api.Record{
		one(0, 0, "\x00"), one(0, 1, "b"), one(0, 255, long(255)), one(0, 256, long(256)), one(0, 1023, "x"), one(0, 1024, long(1024)),
		one(1, 0, "y"), one(1, 1024, long(1023)), one(127, 5, "\xff\x00"), one(128, 5, "z"), one(254, 1024, "v"), one(255, 0, "w"), one(255, 1024, long(1024)),
	}
}

// The chapter's examples.
func TestExamples(t *testing.T) {
	l := []api.Record{one(1, 5, "ab"), one(1, 2, "c"), one(1, 5, "")}
	s := shelfOf(t, l...)
	if b := s.Bytes(); !bytes.Equal(b, []byte{1, 0, 2, 0, 1, 'c'}) {
		t.Errorf("Bytes = %v", b)
	}
	x, e := shelf.Behind(&shelf.Shelf{}, l, 2)
	if e != api.OK || x.Len() != 2 {
		t.Errorf("Behind = %d records, %v", x.Len(), e)
	}
	if data, there := x.Get(1, 5); string(data) != "ab" || !there {
		t.Errorf("Get(1, 5) = %q %v", data, there)
	}
	refuse(t, s, one(256, 0, "a"), api.ErrRecord)
	readNot(t, []byte{1, 0, 2, 0, 0})
}

// The limits and errors are the chapter's.
func TestConstants(t *testing.T) {
	if api.MaxCells != maxN || api.MaxRecord != maxRecord || api.MaxRecords != maxRecords {
		t.Error("limits of api are others")
	}
	if api.ErrNil != 1 || api.ErrRecord != 130 || api.ErrShelf != 131 {
		t.Error("errors of api are others")
	}
}

// P13.1: what may be, and what may not, at the edges of each field; a record without Data may be, too.
func TestCheck(t *testing.T) {
	for _, r := range append(may(), one(0, 0, ""), one(255, 1024, ""), api.Record{}) {
		if e := shelf.Check(r); e != api.OK {
			t.Errorf("Check(%d, %d, %d bytes) = %v", r.Kind, r.N, len(r.Data), e)
		}
	}
	for _, r := range mayNot() {
		if e := shelf.Check(r); e != api.ErrRecord {
			t.Errorf("Check(%d, %d, %d bytes) = %v", r.Kind, r.N, len(r.Data), e)
		}
	}
	for kind := -3; kind < maxKind+4; kind++ {
		for n := -3; n < maxN+4; n++ {
			is := kind >= 0 && kind <= maxKind && n >= 0 && n <= maxN
			if e := shelf.Check(one(kind, n, "a")); is != (e == api.OK) {
				t.Fatalf("Check(%d, %d) = %v", kind, n, e)
			}
		}
	}
}

// P13.1, P13.2: what is written is there, in order, whichever came first.
func TestWrite(t *testing.T) {
	for seed := range int64(20) {
		s, m := &shelf.Shelf{}, model(nil)
		l := may()
		rand.New(rand.NewSource(seed)).Shuffle(len(l), func(i, j int) { l[i], l[j] = l[j], l[i] })
		for _, r := range l {
			write(t, s, r)
			m = m.behind(r)
			expect(t, s, m)
		}
		if !slices.EqualFunc(m, may(), same) {
			t.Fatal("the model is wrong")
		}
	}
}

// P13.1: one of the same Kind and N is written in the place of the other one; without Data it is gone, and nothing else.
func TestWriteAgain(t *testing.T) {
	for _, r := range may() {
		s, m := shelfOf(t, may()...), model(may())
		for _, data := range []string{"other", long(1024), "1", "", "", "again"} {
			write(t, s, one(r.Kind, r.N, data))
			m = m.behind(one(r.Kind, r.N, data))
			expect(t, s, m)
		}
		write(t, s, api.Record{Kind: r.Kind, N: r.N})
		expect(t, s, m.behind(one(r.Kind, r.N, "")))
	}
	s := shelfOf(t, one(3, 3, ""), api.Record{Kind: 255, N: 1024})
	expect(t, s, nil)
	write(t, s, one(3, 3, "a"), one(3, 3, ""))
	expect(t, s, nil)
}

// P13.1: what may not be is not written, be there records or none.
func TestWriteRefused(t *testing.T) {
	for _, r := range mayNot() {
		for _, s := range []*shelf.Shelf{{}, shelfOf(t, may()...)} {
			refuse(t, s, r, api.ErrRecord)
		}
	}
}

// P13.1: a shelf takes MaxRecords; then just what makes no more of them.
func TestFull(t *testing.T) {
	s, m := full(t)
	expect(t, s, m)
	for _, r := range []api.Record{one(0, 1024, "a"), one(4, 0, "a"), one(255, 1024, long(1024)), one(3, 1024, "a")} {
		refuse(t, s, r, api.ErrShelf)
	}
	for _, r := range mayNot() {
		refuse(t, s, r, api.ErrRecord)
	}
	for _, r := range []api.Record{one(0, 0, "new"), one(3, 1023, long(1024)), one(4, 0, ""), one(0, 1024, "")} {
		write(t, s, r)
		m = m.behind(r)
		expect(t, s, m)
	}
	write(t, s, one(2, 7, ""), one(4, 0, "in"))
	m = m.behind(one(2, 7, "")).behind(one(4, 0, "in"))
	expect(t, s, m)
	refuse(t, s, one(2, 7, "back"), api.ErrShelf)
	write(t, s, one(4, 0, ""), one(2, 7, "back"))
	expect(t, s, m.behind(one(4, 0, "")).behind(one(2, 7, "back")))
}

// P13.2: numbers and kinds that there are not are none of others' either.
func TestGetNone(t *testing.T) {
	s := shelfOf(t, one(1, 5, "a"))
	for _, x := range [][2]int{{0, 5}, {2, 5}, {1, 4}, {1, 6}, {5, 1}, {0, 65541}, {0, 1030}, {0, 261}, {257, 5}, {-255, 5}, {1, 5 + 65536}, {1, 5 + 1<<32}, {1 + 1<<32, 5}, {2, 5 - 65536}, {2, -1020}, {1, -5}} {
		if data, there := s.Get(x[0], x[1]); data != nil || there {
			t.Errorf("Get(%d, %d) = %q %v", x[0], x[1], data, there)
		}
	}
	expect(t, s, model{one(1, 5, "a")})
}

// P13.2: each of all kinds is told by Of alone, by N, rising.
func TestOf(t *testing.T) {
	s, m := &shelf.Shelf{}, model(nil)
	for kind := maxKind; kind >= 0; kind-- {
		for _, n := range []int{1024, 300, 255, 256, 0}[:kind%6] {
			write(t, s, one(kind, n, "d"))
			m = m.behind(one(kind, n, "d"))
		}
	}
	for kind := -2; kind < maxKind+3; kind++ {
		expectOf(t, s, m, kind)
	}
	expect(t, s, m)
}

// P13.2: a copy has the same records, and goes its own way.
func TestCopy(t *testing.T) {
	for _, l := range []model{nil, {one(1, 2, "a")}, may()} {
		s := shelfOf(t, l...)
		c := s.Copy()
		d := c.Copy()
		expect(t, c, l)
		write(t, s, one(1, 2, "other"), one(9, 9, "new"))
		write(t, c, one(1, 2, ""), one(255, 1024, "c"))
		expect(t, s, l.behind(one(1, 2, "other")).behind(one(9, 9, "new")))
		expect(t, c, l.behind(one(1, 2, "")).behind(one(255, 1024, "c")))
		expect(t, d, l)
	}
	s, m := full(t)
	c := s.Copy()
	expect(t, c, m)
	refuse(t, c, one(9, 9, "a"), api.ErrShelf)
}

// P13.3: bytes as the chapter writes them, of records at the edges; they are read again.
func TestBytes(t *testing.T) {
	for _, x := range []struct {
		l    model
		want string
	}{
		{nil, ""},
		{model{one(0, 0, "\x00")}, "\x00\x00\x00\x00\x01\x00"},
		{model{one(255, 1024, "ab")}, "\xff\x04\x00\x00\x02ab"},
		{model{one(7, 258, long(257))}, "\x07\x01\x02\x01\x01" + long(257)},
		{model{one(1, 1023, long(1024))}, "\x01\x03\xff\x04\x00" + long(1024)},
		{model{one(1, 2, "c"), one(1, 5, "ab"), one(2, 0, "d")}, "\x01\x00\x02\x00\x01c\x01\x00\x05\x00\x02ab\x02\x00\x00\x00\x01d"},
	} {
		s := shelfOf(t, x.l...)
		if b := s.Bytes(); string(b) != x.want {
			t.Errorf("Bytes = %q, not %q", b, x.want)
		}
		read(t, []byte(x.want), x.l)
	}
	read(t, nil, nil)
	read(t, []byte{}, nil)
	read(t, model(may()).bytes(), may())
	s, m := full(t)
	read(t, s.Bytes(), m)
}

// P13.3: bytes that end within a record are none; those that end behind one are the records up to it.
func TestReadCut(t *testing.T) {
	m := model{one(0, 0, "\x00"), one(1, 2, "abc"), one(1, 1024, long(300)), one(255, 0, "d")}
	b := m.bytes()
	ends := map[int]int{}
	for i := range len(m) + 1 {
		ends[len(m[:i].bytes())] = i
	}
	for i := range len(b) + 1 {
		if many, is := ends[i]; is {
			read(t, b[:i], m[:many])
		} else {
			readNot(t, b[:i])
		}
	}
}

// P13.3: records that may not be, that stand twice, or not in order; without Data; and bytes that say another size.
func TestReadErrors(t *testing.T) {
	for _, m := range []model{
		{one(1, 2, "a"), one(1, 2, "a")}, {one(1, 2, "a"), one(1, 2, "b")}, {one(0, 0, "a"), one(0, 0, "a")},
		{one(1, 3, "a"), one(1, 2, "a")}, {one(2, 0, "a"), one(1, 5, "a")}, {one(1, 256, "a"), one(1, 1, "a")}, {one(255, 1, "a"), one(0, 2, "a")},
		{one(1, 1, "a"), one(1, 3, "b"), one(1, 2, "c")}, {one(1, 1, "a"), one(2, 1, "b"), one(1, 1, "a")},
		{one(0, 0, "")}, {one(1, 2, "a"), one(1, 3, "")}, {one(1, 2, ""), one(1, 3, "a")}, {one(1, 2, "a"), one(1, 2, "")},
		{one(0, 1025, "a")}, {one(0, 65535, "a")}, {one(0, 1025, "a"), one(1, 0, "a")},
		{one(0, 0, long(1025))}, {one(0, 0, long(65535))}, {one(0, 0, long(1025)), one(0, 1, "a")},
	} {
		readNot(t, m.bytes())
	}
	for _, b := range []string{"\x00", "\x01\x00\x02\x00\x01", "\x01\x00\x02\x00\x02c", "\x01\x00\x02\x00\x00c", "\x01\x00\x02\x00\x01cc", "\x01\x02\x00\x01\x00c", "\x01\x00\x02\xff\xffc", "hello, world"} {
		readNot(t, []byte(b))
	}
}

// P13.3: just as many records are read as a shelf may have.
func TestReadFull(t *testing.T) {
	_, m := full(t)
	readNot(t, m.behind(one(4, 0, "a")).bytes())
	readNot(t, m.behind(one(2, 1024, "a")).bytes())
	readNot(t, m.behind(one(0, 1024, "a")).bytes())
	m = m.behind(one(2, 1023, "")).behind(one(2, 1024, "a"))
	read(t, m.bytes(), m)
}

// P13.3: of all short rows of a few bytes just those are read that are some shelf's bytes, and to that.
func TestReadEveryRow(t *testing.T) {
	alphabet := []byte{0, 1, 2, 4}
	var rows func(b []byte)
	many := 0
	rows = func(b []byte) {
		m, is := parsed(b)
		s, e := shelf.Read(b)
		switch {
		case is && (e != api.OK || !bytes.Equal(s.Bytes(), b) || s.Len() != len(m)):
			t.Fatalf("Read(%v) = %v %v", b, s, e)
		case !is && (e != api.ErrShelf || s != nil):
			t.Fatalf("Read(%v) = %v %v", b, s, e)
		case is:
			many++
		}
		if len(b) < 8 {
			for _, x := range alphabet {
				rows(append(slices.Clone(b), x))
			}
		}
	}
	rows(nil)
	if many < 200 {
		t.Errorf("just %d rows were a shelf's", many)
	}
}

// parsed takes bytes for records whatever they are, and says whether these, written one by one, have just those bytes.
func parsed(b []byte) (model, bool) {
	var m model
	for left := b; len(left) >= 5; {
		size := min(int(left[3])*256+int(left[4]), len(left)-5)
		r := one(int(left[0]), int(left[1])*256+int(left[2]), string(left[5:5+size]))
		if r.N <= maxN && size <= maxRecord {
			m = m.behind(r)
		}
		left = left[5+size:]
	}
	return m, bytes.Equal(m.bytes(), b)
}

// P13.4: behind each of some writes, at the edges of many; what they came to before stays.
func TestBehind(t *testing.T) {
	begin := model{one(1, 2, "old"), one(2, 0, "b")}
	l := []api.Record{one(1, 5, "ab"), one(1, 2, "c"), one(1, 5, ""), one(2, 0, "bb"), one(0, 0, ""), one(1, 5, "new")}
	s := shelfOf(t, begin...)
	want := []model{begin}
	for i, r := range l {
		want = append(want, want[i].behind(r))
	}
	for many, m := range map[int]model{math.MinInt: begin, -1: begin, 0: begin, 1: want[1], 2: want[2], 3: want[3], 4: want[4], 5: want[5], 6: want[6], 7: want[6], math.MaxInt: want[6]} {
		x, e := shelf.Behind(s, l, many)
		if e != api.OK {
			t.Fatalf("Behind(%d) = %v", many, e)
		}
		expect(t, x, m)
		expect(t, s, begin)
		write(t, x, one(9, 9, "own"))
		expect(t, s, begin)
	}
	for _, many := range []int{-1, 0, 1} {
		x, e := shelf.Behind(s, nil, many)
		if e != api.OK || x == s {
			t.Fatalf("Behind of nothing = %v", e)
		}
		expect(t, x, begin)
	}
}

// P13.4: what Write refuses ends it, with nothing but its error; what stands behind the first many is not asked.
func TestBehindErrors(t *testing.T) {
	for _, bad := range mayNot() {
		l := []api.Record{one(1, 1, "a"), one(1, 2, "b"), bad, one(1, 3, "c")}
		s := shelfOf(t, one(9, 9, "s"))
		for many := -1; many < 6; many++ {
			x, e := shelf.Behind(s, l, many)
			switch {
			case many <= 2 && (e != api.OK || x.Len() != 1+max(many, 0)):
				t.Errorf("Behind(%d) = %d records, %v", many, x.Len(), e)
			case many > 2 && (e != api.ErrRecord || x != nil):
				t.Errorf("Behind(%d) = %v %v", many, x, e)
			}
			expect(t, s, model{one(9, 9, "s")})
		}
	}
}

// P13.4: a full shelf refuses by ErrShelf, unless room was made ahead; the first one that is refused says the error.
func TestBehindFull(t *testing.T) {
	s, m := full(t)
	more, bad, fewer := one(9, 9, "a"), one(256, 0, "a"), one(0, 0, "")
	for _, x := range []struct {
		l    []api.Record
		want api.Errno
	}{
		{[]api.Record{more}, api.ErrShelf}, {[]api.Record{more, bad}, api.ErrShelf}, {[]api.Record{bad, more}, api.ErrRecord},
		{[]api.Record{more, fewer}, api.ErrShelf}, {[]api.Record{fewer, more, one(0, 0, "b")}, api.ErrShelf}, {[]api.Record{fewer, more}, api.OK},
	} {
		u, e := shelf.Behind(s, x.l, len(x.l))
		if e != x.want || (u == nil) != (e != api.OK) {
			t.Errorf("Behind(%v) = %v", x.l, e)
		}
		expect(t, s, m)
	}
}

// P13.4: the same records, however they came; one that is another, more or fewer makes a difference.
func TestSame(t *testing.T) {
	back := slices.Clone(may())
	slices.Reverse(back)
	var none *shelf.Shelf
	once := shelfOf(t, one(1, 1, "a"), one(1, 1, ""))
	empty := []*shelf.Shelf{none, {}, once, once.Copy()}
	for i, s := range empty {
		for j, u := range empty {
			if !shelf.Same(s, u) {
				t.Errorf("Same of %d and %d, without records, is false", i, j)
			}
		}
	}
	kinds := []*shelf.Shelf{
		{}, shelfOf(t, may()...), shelfOf(t, may()[1:]...), shelfOf(t, may()[:12]...), shelfOf(t, append(may(), one(9, 9, "x"))...),
		shelfOf(t, append(may(), one(0, 0, "\x01"))...), shelfOf(t, append(may(), one(0, 1, "bb"))...),
		shelfOf(t, one(0, 1, "a")), shelfOf(t, one(1, 0, "a")), shelfOf(t, one(0, 256, "a")), shelfOf(t, one(0, 1, "b")), shelfOf(t, one(0, 1, "aa")),
		shelfOf(t, one(0, 1, "a"), one(0, 2, "b")), shelfOf(t, one(0, 1, "b"), one(0, 2, "a")), shelfOf(t, one(0, 1, "a\x00\x00\x02\x00\x01b")),
	}
	for i, s := range kinds {
		for j, u := range kinds {
			if is := shelf.Same(s, u); is != (i == j) {
				t.Errorf("Same of %d and %d = %v", i, j, is)
			}
		}
		if is := shelf.Same(s, none); is != (i == 0) || shelf.Same(none, s) != is {
			t.Errorf("Same of %d and none = %v", i, is)
		}
		if !shelf.Same(s, s.Copy()) || !shelf.Same(s.Copy(), s) {
			t.Errorf("Same of %d and its copy is false", i)
		}
	}
	if !shelf.Same(kinds[1], shelfOf(t, back...)) {
		t.Error("Same is false of those that were written the other way round")
	}
}

// P13.5: what is handed in is only read, and may be written to later.
func TestHandedIn(t *testing.T) {
	data := []byte("abcdef")
	s := &shelf.Shelf{}
	write(t, s, api.Record{Kind: 1, N: 1, Data: data[:3]}, api.Record{Kind: 1, N: 2, Data: data[2:]})
	l := []api.Record{{Kind: 2, N: 2, Data: data[1:4]}, {Kind: 1, N: 1, Data: nil}}
	u, _ := shelf.Behind(s, l, 1)
	if string(data) != "abcdef" || len(l) != 2 || !same(l[0], one(2, 2, "bcd")) || !same(l[1], one(1, 1, "")) {
		t.Error("what was handed in is another one")
	}
	copy(data, "xxxxxx")
	l[0].N = 3
	expect(t, s, model{one(1, 1, "abc"), one(1, 2, "cdef")})
	expect(t, u, model{one(1, 1, "abc"), one(1, 2, "cdef"), one(2, 2, "bcd")})
	b := u.Bytes()
	held := slices.Clone(b)
	r, _ := shelf.Read(b)
	if !bytes.Equal(b, held) {
		t.Error("bytes that were handed in are others")
	}
	clear(b)
	expect(t, r, model{one(1, 1, "abc"), one(1, 2, "cdef"), one(2, 2, "bcd")})
}

// P13.5: what is answered may be written to, and added to; nothing turns by it, neither the shelf nor what else was answered.
func TestNewMemory(t *testing.T) {
	m := model(may())
	s := shelfOf(t, m...)
	u, _ := shelf.Read(s.Bytes())
	c := s.Copy()
	d, _ := shelf.Behind(s, nil, 0)
	for _, x := range []*shelf.Shelf{s, u, c, d} {
		lists := [][]api.Record{x.All(), x.Of(0), x.All(), x.Of(0)}
		first, _ := x.Get(0, 1024)
		second, _ := x.Get(0, 1024)
		b := x.Bytes()
		clear(first)
		_ = append(first[:1], "later"...)
		clear(b)
		for i, l := range lists {
			if want := []model{m, m.of(0)}[i%2]; !slices.EqualFunc(l, want, same) {
				t.Fatalf("list %d is %v", i, l)
			}
			for j := range l {
				clear(l[j].Data)
				l[j].Data = append(l[j].Data, 'y')
			}
			clear(l)
		}
		if string(second) != long(1024) {
			t.Error("what was got once more turned")
		}
		for _, y := range []*shelf.Shelf{s, u, c, d} {
			expect(t, y, m)
		}
	}
}

// drawn are records, all that may be, often of the same few kinds and numbers, and often without Data.
func drawn(r *rand.Rand, many int) []api.Record {
	kinds, ns := []int{0, 1, 2, 127, 128, 255}, []int{0, 1, 255, 256, 257, 1023, 1024}
	l := make([]api.Record, many)
	for i := range l {
		data := make([]byte, []int{0, 0, 1, 2, 3, 255, 256, 1024}[r.Intn(8)])
		r.Read(data)
		l[i] = api.Record{Kind: kinds[r.Intn(len(kinds))], N: ns[r.Intn(len(ns))], Data: data}
	}
	return l
}

// P13.6: drawn writes against the model: the last one of a Kind and N is there, others stay; Read of Bytes is the shelf.
func TestAgainstModel(t *testing.T) {
	for seed := range int64(10) {
		r := rand.New(rand.NewSource(seed))
		s, m := &shelf.Shelf{}, model(nil)
		for _, x := range drawn(r, 200) {
			write(t, s, x)
			m = m.behind(x)
			expect(t, s, m)
			u, e := shelf.Read(s.Bytes())
			if e != api.OK || !shelf.Same(s, u) {
				t.Fatalf("Read of Bytes = %v", e)
			}
			if r.Intn(10) == 0 {
				s = u
			}
		}
	}
}

// P13.6: what is behind a crash after many writes, and the rest is written then, is what is behind all.
func TestCrash(t *testing.T) {
	for seed := range int64(10) {
		r := rand.New(rand.NewSource(seed))
		s := shelfOf(t, drawn(r, 20)...)
		l := drawn(r, 40)
		all, e := shelf.Behind(s, l, len(l))
		if e != api.OK {
			t.Fatalf("Behind = %v", e)
		}
		for many := range len(l) + 1 {
			x, e := shelf.Behind(s, l, many)
			if e != api.OK {
				t.Fatalf("Behind(%d) = %v", many, e)
			}
			y, e := shelf.Behind(x, l[many:], len(l))
			if e != api.OK || !shelf.Same(y, all) {
				t.Fatalf("the rest behind %d: %v", many, e)
			}
			write(t, x, l[many:]...)
			if !shelf.Same(x, all) {
				t.Fatalf("the rest written behind %d is another one", many)
			}
		}
	}
}

// Types: one that nobody made has no records, and takes some.
func TestNobodyMade(t *testing.T) {
	var s shelf.Shelf
	expect(t, &s, nil)
	c := s.Copy()
	if c == nil {
		t.Fatal("Copy of one without records is none")
	}
	expect(t, c, nil)
	write(t, c, one(0, 0, "c"))
	write(t, &s, one(0, 0, ""))
	expect(t, &s, nil)
	write(t, &s, one(0, 0, "a"))
	expect(t, &s, model{one(0, 0, "a")})
	expect(t, c, model{one(0, 0, "c")})
}

// Types: none answers ErrNil, ahead of all other errors, or nothing.
func TestNone(t *testing.T) {
	var s *shelf.Shelf
	for range 2 {
		expect(t, s, nil)
		for _, r := range append(append(may(), mayNot()...), one(0, 0, "")) {
			if e := s.Write(r); e != api.ErrNil {
				t.Errorf("Write(%d, %d) = %v", r.Kind, r.N, e)
			}
			for _, many := range []int{-1, 0, 1, 2} {
				if x, e := shelf.Behind(s, []api.Record{r}, many); x != nil || e != api.ErrNil {
					t.Errorf("Behind(%d) = %v %v", many, x, e)
				}
			}
		}
		if s.Copy() != nil {
			t.Error("Copy of none is one")
		}
	}
}
