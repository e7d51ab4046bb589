package place_test

import (
	"math"
	"math/rand"
	"strings"
	"testing"

	"errata/api"
	"errata/place"
)

func one(s string) place.Place { return places(s)[0] }

// pushed is a tree made by pushes: each is a node's number and a place.
func pushed(t *testing.T, steps ...any) *place.Tree {
	t.Helper()
	tr := place.New()
	for i := 0; i < len(steps); i += 2 {
		if _, e := tr.Push(steps[i].(int), one(steps[i+1].(string))); e != api.OK {
			t.Fatalf("push %d: %d", i/2, e)
		}
	}
	return tr
}

func example(t *testing.T) *place.Tree { return pushed(t, 0, "m:1", 1, "f:2", 1, "g:3") }

// full is a tree with as many nodes as there may be: 63 stacks of 64 places and one of 63, which have no place alike.
func full(t *testing.T) *place.Tree {
	t.Helper()
	tr := place.New()
	for n := 1; n < place.MaxNodes; n++ {
		at := n - 1
		if n%64 == 1 {
			at = 0
		}
		if got, e := tr.Push(at, place.Place{Name: "f", Line: n}); got != n || e != api.OK {
			t.Fatalf("push %d: %d %d", n, got, e)
		}
	}
	return tr
}

var noNodes = []int{-1, math.MinInt, math.MaxInt, 1 << 32, -1 << 32}

// sayNodes holds a tree against the list of its stacks.
func sayNodes(t *testing.T, tr *place.Tree, want *forest) {
	t.Helper()
	if tr.Len() != len(want.stacks) {
		t.Fatalf("Len: %d, and not %d", tr.Len(), len(want.stacks))
	}
	for n, s := range want.stacks {
		l, e := tr.Stack(n)
		if written(l) != s || e != api.OK || tr.Depth(n) != len(places(s)) {
			t.Fatalf("node %d: %s %d, depth %d, and not %s", n, written(l), e, tr.Depth(n), s)
		}
		p, ok := tr.Parent(n)
		if n == 0 && (p != 0 || ok) || n > 0 && (p != want.parent(n) || !ok) {
			t.Fatalf("node %d: parent %d %v", n, p, ok)
		}
	}
	for _, n := range append([]int{len(want.stacks), len(want.stacks) + 1}, noNodes...) {
		p, ok := tr.Parent(n)
		l, e := tr.Stack(n)
		if p != 0 || ok || len(l) != 0 || e != api.ErrArg || tr.Depth(n) != 0 {
			t.Fatalf("node %d, which there is none: parent %d %v, %s %d, depth %d", n, p, ok, written(l), e, tr.Depth(n))
		}
	}
	if tr.Told() != want.told() {
		t.Fatalf("told % x, and not % x", tr.Told(), want.told())
	}
}

func TestP3_6New(t *testing.T) {
	a, b := place.New(), place.New()
	if n, e := a.Push(0, one("m:1")); n != 1 || e != api.OK {
		t.Errorf("%d %d", n, e)
	}
	sayNodes(t, a, &forest{[]string{"", "m:1"}})
	sayNodes(t, b, &forest{[]string{""}})
}

func TestP3_6Push(t *testing.T) {
	tr := place.New()
	for _, c := range []struct {
		at   int
		p    string
		want int
	}{{0, "m:1", 1}, {1, "f:2", 2}, {1, "g:3", 3}, {0, "m:1", 1}, {1, "g:3", 3}, {1, "f:2", 2}, {0, "m:2", 4}, {0, "f:2", 5}, {2, "f:2", 6}, {5, "f:2", 7}, {3, "f:2", 8}, {0, "f:1", 9}, {6, "f:2", 10}} {
		if n, e := tr.Push(c.at, one(c.p)); n != c.want || e != api.OK {
			t.Errorf("%s behind %d: %d %d, and not %d", c.p, c.at, n, e, c.want)
		}
	}
	sayNodes(t, tr, &forest{[]string{"", "m:1", "m:1 f:2", "m:1 g:3", "m:2", "f:2", "m:1 f:2 f:2", "f:2 f:2", "m:1 g:3 f:2", "f:1", "m:1 f:2 f:2 f:2"}})
}

func TestP3_6PushThatMayNotBe(t *testing.T) {
	tr := example(t)
	told := tr.Told()
	for _, at := range append([]int{4, 5}, noNodes...) {
		for _, p := range []place.Place{one("m:1"), {}} {
			if n, e := tr.Push(at, p); n != 0 || e != api.ErrArg {
				t.Errorf("behind %d: %d %d", at, n, e)
			}
		}
	}
	for _, p := range illPlaces() {
		for at := range 4 {
			if n, e := tr.Push(at, p); n != 0 || e != api.ErrPlace {
				t.Errorf("%#v: %d %d", p, n, e)
			}
		}
	}
	if tr.Told() != told || tr.Len() != 4 {
		t.Errorf("the tree is another: % x", tr.Told())
	}
}

func TestP3_6PushAtTheGreatestDepth(t *testing.T) {
	tr := place.New()
	for n := range 64 {
		if got, e := tr.Push(n, one("f:1")); got != n+1 || e != api.OK {
			t.Fatalf("%d: %d %d", n, got, e)
		}
	}
	for _, p := range []string{"f:1", "g:1"} {
		if n, e := tr.Push(64, one(p)); n != 0 || e != api.ErrStack {
			t.Errorf("%s: %d %d", p, n, e)
		}
	}
	if n, e := tr.Push(64, place.Place{}); n != 0 || e != api.ErrPlace {
		t.Errorf("no place: %d %d", n, e)
	}
	if n, e := tr.Push(65, one("f:1")); n != 0 || e != api.ErrArg {
		t.Errorf("behind no node: %d %d", n, e)
	}
	if tr.Len() != 65 || tr.Depth(64) != 64 {
		t.Errorf("%d nodes, depth %d", tr.Len(), tr.Depth(64))
	}
	if n, e := tr.Push(63, one("g:1")); n != 65 || e != api.OK {
		t.Errorf("ahead of the last one: %d %d", n, e)
	}
}

func TestP3_6PushToAFullTree(t *testing.T) {
	tr := full(t)
	told := tr.Told()
	for at, want := range map[int]api.Errno{0: api.ErrFull, 1: api.ErrFull, 63: api.ErrFull, 64: api.ErrStack, 4095: api.ErrFull, 4096: api.ErrArg} {
		if n, e := tr.Push(at, one("new:1")); n != 0 || e != want {
			t.Errorf("behind %d: %d %d", at, n, e)
		}
	}
	if n, e := tr.Push(0, place.Place{}); n != 0 || e != api.ErrPlace {
		t.Errorf("no place: %d %d", n, e)
	}
	if n, e := tr.Push(64, one("f:65")); n != 0 || e != api.ErrStack {
		t.Errorf("as deep as may be: %d %d", n, e)
	}
	for at, c := range map[int]string{0: "f:65", 1: "f:2", 4094: "f:4095"} {
		n, e := tr.Push(at, one(c))
		if l, _ := tr.Stack(n); e != api.OK || l[len(l)-1] != one(c) {
			t.Errorf("%s, which is there: %d %d", c, n, e)
		}
	}
	if tr.Len() != 4096 || tr.Told() != told {
		t.Errorf("the tree is another; %d nodes", tr.Len())
	}
}

func TestP3_6P3_8Add(t *testing.T) {
	tr := place.New()
	want := &forest{[]string{""}}
	for _, c := range []struct {
		l string
		n int
	}{{"", 0}, {"m:1 f:2 g:3", 3}, {"m:1 f:2 h:3", 4}, {"m:1", 1}, {"f:2", 5}, {"m:1 f:2 g:3", 3}, {"m:1 f:2", 2}, {"f:2 f:2", 6}, {"", 0}} {
		n, e := tr.Add(places(c.l))
		if n != c.n || e != api.OK {
			t.Errorf("%s: %d %d, and not %d", c.l, n, e, c.n)
		}
	}
	want.stacks = append(want.stacks, "m:1", "m:1 f:2", "m:1 f:2 g:3", "m:1 f:2 h:3", "f:2", "f:2 f:2")
	sayNodes(t, tr, want)
}

func TestP3_8AddOfAllStacks(t *testing.T) {
	var nodes []int
	tr := place.New()
	for i, l := range someStacks() {
		if tr.Len() > 4000 {
			tr = place.New()
		}
		n, e := tr.Add(l)
		back, f := tr.Stack(n)
		if e != api.OK || f != api.OK || written(back) != written(l) || tr.Depth(n) != len(l) {
			t.Errorf("%s: %d %d, %s %d", written(l), n, e, written(back), f)
		}
		if again, e := tr.Add(l); again != n || e != api.OK {
			t.Errorf("%s once more: %d %d, and not %d", written(l), again, e, n)
		}
		nodes = append(nodes, n)
		if i%10 == 0 {
			sayAlike(t, tr)
		}
	}
	if len(nodes) < 100 {
		t.Errorf("%d stacks", len(nodes))
	}
}

func TestP3_6AddOfNoStack(t *testing.T) {
	for _, c := range noStacks() {
		tr := example(t)
		if n, e := tr.Add(c.l); n != 0 || e != c.e || tr.Len() != 4 {
			t.Errorf("%d places: %d %d, and not %d; %d nodes", len(c.l), n, e, c.e, tr.Len())
		}
	}
}

func TestP3_6AddToATreeThatGetsFull(t *testing.T) {
	tr := full(t)
	if n, e := tr.Add(places("f:1 f:2")); n != 2 || e != api.OK {
		t.Errorf("what is there: %d %d", n, e)
	}
	if n, e := tr.Add(places("f:1 f:2 g:1")); n != 0 || e != api.ErrFull {
		t.Errorf("what is not: %d %d", n, e)
	}
	if n, e := tr.Add(nil); n != 0 || e != api.OK {
		t.Errorf("the empty stack: %d %d", n, e)
	}
	if tr.Len() != 4096 {
		t.Errorf("%d nodes", tr.Len())
	}
	tr = place.New()
	for i := range 64 { // with the 60 behind them they leave room for three
		l := chain(63)
		l[0].Name = "x" + string(rune('a'+i/26)) + string(rune('a'+i%26))
		if _, e := tr.Add(l); e != api.OK {
			t.Fatal(e)
		}
	}
	if n, e := tr.Add(chain(60)); n != 4092 || e != api.OK {
		t.Errorf("%d %d", n, e)
	}
	other := places("y:1 y:2 y:3 y:4 y:5")
	if n, e := tr.Add(other); n != 0 || e != api.ErrFull {
		t.Errorf("two places too many: %d %d", n, e)
	}
	l, e := tr.Stack(4095)
	if tr.Len() != 4096 || written(l) != "y:1 y:2 y:3" || e != api.OK {
		t.Errorf("what was made on the way: %s %d; %d nodes", written(l), e, tr.Len())
	}
	if n, e := tr.Add(other[:3]); n != 4095 || e != api.OK {
		t.Errorf("%d %d", n, e)
	}
	if n, e := tr.Add(chain(65)); n != 0 || e != api.ErrStack {
		t.Errorf("no stack to a full tree: %d %d", n, e)
	}
}

func TestP3_7OfTheExample(t *testing.T) {
	tr := example(t)
	sayNodes(t, tr, &forest{[]string{"", "m:1", "m:1 f:2", "m:1 g:3"}})
	if n, e := tr.Meet(2, 3); n != 1 || e != api.OK {
		t.Errorf("%d %d", n, e)
	}
	if s := tr.Told(); s != "\x03\x01\x01m\x01\x01\x01f\x02\x02\x01g\x03" {
		t.Errorf("% x", s)
	}
	if s := place.New().Told(); s != "\x00" {
		t.Errorf("% x", s)
	}
}

// sayAlike holds Meet against Common for the nodes of a tree, but not more than some.
func sayAlike(t *testing.T, tr *place.Tree) {
	t.Helper()
	step := 1 + tr.Len()/25
	for a := 0; a < tr.Len(); a += step {
		for b := 0; b < tr.Len(); b += step {
			n, e := tr.Meet(a, b)
			la, _ := tr.Stack(a)
			lb, _ := tr.Stack(b)
			met, f := tr.Stack(n)
			if e != api.OK || f != api.OK || written(met) != written(la[:place.Common(la, lb)]) {
				t.Fatalf("%s and %s: %s %d", written(la), written(lb), written(met), e)
			}
		}
	}
}

func TestP3_7P3_8Meet(t *testing.T) {
	tr := place.New()
	for _, s := range []string{"a:1 b:1 c:1 d:1", "a:1 b:1 c:2 d:1", "a:1 b:2", "x:1 b:1 c:1", "a:1 b:1 c:1 e:1"} {
		if _, e := tr.Add(places(s)); e != api.OK {
			t.Fatal(e)
		}
	}
	for _, c := range [][3]string{{"a:1 b:1 c:1 d:1", "a:1 b:1 c:2 d:1", "a:1 b:1"}, {"a:1 b:1 c:1 d:1", "a:1 b:2", "a:1"}, {"a:1", "x:1", ""}, {"", "x:1", ""}, {"", "", ""}, {"a:1 b:1", "a:1 b:1 c:1 e:1", "a:1 b:1"}, {"a:1 b:1 c:1 e:1", "a:1 b:1 c:1 d:1", "a:1 b:1 c:1"}, {"x:1 b:1", "a:1 b:1", ""}, {"a:1 b:2", "a:1 b:2", "a:1 b:2"}} {
		a, _ := tr.Add(places(c[0]))
		b, _ := tr.Add(places(c[1]))
		want, _ := tr.Add(places(c[2]))
		if n, e := tr.Meet(a, b); n != want || e != api.OK {
			t.Errorf("%s and %s: %d %d", c[0], c[1], n, e)
		}
		if n, e := tr.Meet(b, a); n != want || e != api.OK {
			t.Errorf("%s and %s: %d %d", c[1], c[0], n, e)
		}
	}
	sayAlike(t, tr)
	n := tr.Len()
	for _, none := range append([]int{n, n + 1}, noNodes...) {
		for _, c := range [][2]int{{none, 0}, {0, none}, {none, none}, {1, none}, {none, n - 1}} {
			if got, e := tr.Meet(c[0], c[1]); got != 0 || e != api.ErrArg {
				t.Errorf("%v: %d %d", c, got, e)
			}
		}
	}
}

// Trees that grow by chance are held against the list of their stacks.
func TestP3_6P3_7TreesByChance(t *testing.T) {
	r := rand.New(rand.NewSource(36))
	for range 30 {
		tr, want := place.New(), &forest{[]string{""}}
		for range 60 {
			at, p := r.Intn(len(want.stacks)), somePlace(r)
			n, e := tr.Push(at, p)
			if w := want.push(at, p); n != w || e != api.OK {
				t.Fatalf("%v behind %d: %d %d, and not %d", p, at, n, e, w)
			}
		}
		sayNodes(t, tr, want)
		sayAlike(t, tr)
	}
}

func TestP3_6P3_7OfNoTree(t *testing.T) {
	var none *place.Tree
	for _, n := range []int{0, 1, -1} {
		if got, e := none.Push(n, one("m:1")); got != 0 || e != api.ErrNil {
			t.Errorf("Push: %d %d", got, e)
		}
		if got, e := none.Push(n, place.Place{}); got != 0 || e != api.ErrNil {
			t.Errorf("Push of no place: %d %d", got, e)
		}
		if got, ok := none.Parent(n); got != 0 || ok {
			t.Errorf("Parent: %d %v", got, ok)
		}
		if none.Depth(n) != 0 {
			t.Errorf("Depth: %d", none.Depth(n))
		}
		if l, e := none.Stack(n); len(l) != 0 || e != api.ErrNil {
			t.Errorf("Stack: %s %d", written(l), e)
		}
		if got, e := none.Meet(n, n); got != 0 || e != api.ErrNil {
			t.Errorf("Meet: %d %d", got, e)
		}
	}
	for _, l := range [][]place.Place{nil, chain(2), chain(65), {{}}} {
		if got, e := none.Add(l); got != 0 || e != api.ErrNil {
			t.Errorf("Add: %d %d", got, e)
		}
	}
	if none.Len() != 0 || none.Told() != "" {
		t.Errorf("Len and Told: %d %q", none.Len(), none.Told())
	}
}

// Of a tree that New did not make nothing is promised but that its calls end.
func TestP3_6BareTreesEnd(t *testing.T) {
	var bare place.Tree
	copied := *full(t)
	for _, tr := range []*place.Tree{&bare, new(place.Tree), &copied} {
		for _, n := range []int{-1, 0, 1, 2} {
			tr.Push(n, one("m:1"))
			tr.Parent(n)
			tr.Depth(n)
			tr.Stack(n)
			tr.Meet(n, 0)
		}
		tr.Add(nil)
		tr.Add(chain(3))
		tr.Len()
		tr.Told()
	}
}

func TestP3_7ToldAndFrom(t *testing.T) {
	long := strings.Repeat("n", 120)
	for told, stacks := range map[string][]string{
		"\x00":              {""},
		"\x01\x01\x01m\x01": {"", "m:1"},
		"\x03\x01\x01m\x01\x01\x01f\x02\x02\x01g\x03":                              {"", "m:1", "m:1 f:2", "m:1 g:3"},
		"\x02\x01\x01m\x01\x02\x01m\x02":                                           {"", "m:1", "m:2"},
		"\x02\x01\x01m\x01\x01\x01m\x01":                                           {"", "m:1", "m:1 m:1"},
		"\x01\x01\x78" + long + "\x80\x80\x40":                                     {"", long + ":1048576"},
		"\x04\x01\x01m\x7f\x01\x01m\x80\x01\x01\x01m\xff\x7f\x01\x01m\x80\x80\x01": {"", "m:127", "m:127 m:128", "m:127 m:128 m:16383", "m:127 m:128 m:16383 m:16384"},
		"\x01\x01\x01m\x00":                                                        {"", "m:0"},
	} {
		tr, e := place.From(told)
		if e != api.OK {
			t.Errorf("% x: %d", told, e)
			continue
		}
		sayNodes(t, tr, &forest{stacks})
		if tr.Told() != told {
			t.Errorf("% x: % x", told, tr.Told())
		}
	}
}

func TestP3_7FromOfNoTree(t *testing.T) {
	long := strings.Repeat("n", 121)
	for i, s := range []string{
		"", "\x80", "\x80\x00", "\x80\x80\x00", "\x00\x00", "\x00m", "\xff\xff\xff\xff\xff\xff\xff\xff\xff\x01", "\x80\x80\x80\x80\x80\x80\x80\x80\x80\x80\x80\x80", strings.Repeat("\x80", 1000) + "\x00",
		"\x01", "\x01\x01", "\x01\x01\x01", "\x01\x01\x01m", "\x01\x01\x01m\x80", "\x01\x01\x02m\x01", "\x01\x01\x02m", "\x01\x01\x01m\x01\x00", "\x01\x01\x01m\x01m", "\x02\x01\x01m\x01", "\x00\x01\x01m\x01",
		"\x01\x02\x01m\x01", "\x01\x00\x01m\x01", "\x02\x01\x01m\x01\x03\x01m\x02", "\x02\x01\x01m\x01\x00\x01m\x02", "\x02\x01\x01m\x01\x02\x01m\x01", "\x01\xff\xff\xff\xff\xff\xff\xff\xff\xff\x01\x01m\x01",
		"\x01\x01\x00\x01", "\x01\x01\x01 \x01", "\x01\x01\x01:\x01", "\x01\x01\x01\x7f\x01", "\x01\x01\x01\x00\x01", "\x01\x01\x02\xc3\xa9\x01", "\x01\x01\x79" + long + "\x01", "\x01\x01\xff\xff\xff\xff\xff\xff\xff\xff\xff\x01m\x01",
		"\x01\x01\x01m\x81\x80\x40", "\x01\x01\x01m\xff\xff\x7f", "\x01\x01\x01m\x80\x80\x80\x01", "\x01\x01\x01m\x81\x00", "\x01\x01\x01m\x80\x00", "\x01\x01\x01m\x80\x80\x00", "\x01\x01\x81\x00m\x01", "\x01\x81\x00\x01m\x01", "\x81\x00\x01\x01m\x01",
		"\x01\x01\x01m\x81\x80\x80\x00", "\x01\x01\x01m\x81\x80\x80\x80\x80\x80\x80\x80\x80\x00", "\x01\x01\x01m\x81\x80\x80\x80\x80\x80\x80\x80\x80\x02",
	} {
		tr, e := place.From(s)
		if tr != nil || e != api.ErrForm {
			t.Errorf("%d: % x: %v %d", i, s, tr, e)
		}
		if _, ok := readTold(s); ok {
			t.Errorf("%d: % x: a tree's bytes, says the chapter", i, s)
		}
	}
}

func TestP3_7FromAtTheBounds(t *testing.T) {
	deep := func(n int) string { return short(n) + strings.Repeat("\x01\x01m\x01", n) }
	wide := func(n int) string {
		s := short(n)
		for i := range n {
			s += short(i+1) + "\x01m" + short(i)
		}
		return s
	}
	for n := 60; n < 70; n++ {
		tr, e := place.From(deep(n))
		if n <= 64 && (e != api.OK || tr.Len() != n+1 || tr.Told() != deep(n)) || n > 64 && (e != api.ErrForm || tr != nil) {
			t.Errorf("%d places: %d", n, e)
		}
	}
	for n := 4093; n < 4099; n++ {
		tr, e := place.From(wide(n))
		if n <= 4095 && (e != api.OK || tr.Len() != n+1 || tr.Told() != wide(n)) || n > 4095 && (e != api.ErrForm || tr != nil) {
			t.Errorf("%d nodes beside the first: %d", n, e)
		}
	}
}

// Bytes near to a tree's own are held against the chapter's word of them.
func TestP3_7FromNearby(t *testing.T) {
	r := rand.New(rand.NewSource(37))
	trees := 0
	for range 40000 {
		tr := place.New()
		for range r.Intn(5) {
			tr.Push(r.Intn(tr.Len()), somePlace(r))
		}
		s := tr.Told()
		for range r.Intn(3) {
			i := r.Intn(len(s) + 1)
			j := min(len(s), i+r.Intn(3))
			s = s[:i] + []string{"", "\x00", "\x01", "\x02", "\x80", "\x81", "m", "\xff", "\x01\x01m\x01"}[r.Intn(9)] + s[j:]
		}
		want, ok := readTold(s)
		got, e := place.From(s)
		if ok != (e == api.OK) || !ok && (e != api.ErrForm || got != nil) {
			t.Fatalf("% x: %d, and not %v", s, e, ok)
		}
		if ok {
			trees++
			sayNodes(t, got, want)
			if got.Told() != s {
				t.Fatalf("% x: % x", s, got.Told())
			}
		}
	}
	if trees < 4000 || trees > 36000 {
		t.Errorf("%d of them were trees' bytes", trees)
	}
}

// A tree that was read tells the same of all nodes, and goes on like the first one.
func TestP3_8FromOfTold(t *testing.T) {
	r := rand.New(rand.NewSource(38))
	trees := []*place.Tree{place.New(), example(t), full(t)}
	for range 40 {
		tr := place.New()
		for range r.Intn(200) {
			tr.Add(someStack(r, 5))
		}
		trees = append(trees, tr)
	}
	for _, tr := range trees {
		other, e := place.From(tr.Told())
		if e != api.OK {
			t.Fatal(e)
		}
		for range 2 {
			sayTheSame(t, tr, other)
			l := someStack(r, 9)
			a, e := tr.Add(l)
			b, f := other.Add(l)
			if a != b || e != f {
				t.Fatalf("%s: %d %d, %d %d", written(l), a, e, b, f)
			}
		}
	}
}

func sayTheSame(t *testing.T, a, b *place.Tree) {
	t.Helper()
	if a.Len() != b.Len() || a.Told() != b.Told() {
		t.Fatalf("%d nodes, %d nodes", a.Len(), b.Len())
	}
	for n := -1; n <= a.Len(); n++ {
		la, ea := a.Stack(n)
		lb, eb := b.Stack(n)
		pa, oka := a.Parent(n)
		pb, okb := b.Parent(n)
		if written(la) != written(lb) || ea != eb || pa != pb || oka != okb || a.Depth(n) != b.Depth(n) {
			t.Fatalf("node %d: %s %d %d %v, %s %d %d %v", n, written(la), ea, pa, oka, written(lb), eb, pb, okb)
		}
		ma, ea := a.Meet(n, n/2)
		mb, eb := b.Meet(n, n/2)
		if ma != mb || ea != eb {
			t.Fatalf("Meet of %d: %d %d, %d %d", n, ma, ea, mb, eb)
		}
	}
}
