package place_test

import (
	"math/rand"
	"regexp"
	"strconv"
	"strings"

	"errata/place"
)

// places reads the short way in which the chapter's examples are written: name:line, the outermost first, blanks between.
func places(s string) []place.Place {
	var l []place.Place
	for _, one := range strings.Fields(s) {
		name, line, _ := strings.Cut(one, ":")
		n, err := strconv.Atoi(line)
		if err != nil {
			panic(err)
		}
		l = append(l, place.Place{Name: name, Line: n})
	}
	return l
}

// written is the short way back; what is unlike is written unlike.
func written(l []place.Place) string {
	var s []string
	for _, p := range l {
		s = append(s, p.Name+":"+strconv.Itoa(p.Line))
	}
	return strings.Join(s, " ")
}

func writtenRuns(l []place.Run) string {
	var s []string
	for _, r := range l {
		s = append(s, written(r.Places)+" x"+strconv.Itoa(r.Times))
	}
	return strings.Join(s, "; ")
}

// chain is n places, no two alike.
func chain(n int) []place.Place {
	var l []place.Place
	for i := range n {
		l = append(l, place.Place{Name: "f", Line: i})
	}
	return l
}

// letters is a place for each letter.
func letters(s string) []place.Place {
	var l []place.Place
	for _, r := range s {
		l = append(l, place.Place{Name: string(r), Line: 1})
	}
	return l
}

var names = []string{"m", "f", "g", "lib.a", "lib.b", "a/b.(*C).D", "<", "!~", strings.Repeat("n", place.MaxName)}
var numbers = []int{0, 1, 2, 9, 10, 127, 128, 16383, 16384, place.MaxLine - 1, place.MaxLine}

func somePlace(r *rand.Rand) place.Place {
	return place.Place{Name: names[r.Intn(len(names))], Line: numbers[r.Intn(len(numbers))]}
}

func someStack(r *rand.Rand, most int) []place.Place {
	l := make([]place.Place, r.Intn(most+1))
	for i := range l {
		l[i] = somePlace(r)
	}
	return l
}

// someStacks has stacks of all lengths, of few places and of many.
func someStacks() [][]place.Place {
	r := rand.New(rand.NewSource(3))
	all := [][]place.Place{nil, {}, chain(1), chain(place.MaxPlaces), letters("aaaaaaaa"), letters("abcabcabd")}
	for n := range place.MaxPlaces + 1 {
		all = append(all, chain(n))
		l := make([]place.Place, n)
		for i := range l {
			l[i] = somePlace(r)
		}
		all = append(all, l)
		few := make([]place.Place, n)
		for i := range few {
			few[i] = place.Place{Name: names[r.Intn(2)], Line: 1}
		}
		all = append(all, few)
	}
	return all
}

var onePlace = regexp.MustCompile(`^([\x21-\x39\x3b-\x7e]{1,120}):(0|[1-9][0-9]{0,9})$`)

// mayBe is the chapter's word of a place, by its text.
func mayBe(p place.Place) bool {
	return onePlace.MatchString(p.Name+":"+strconv.Itoa(p.Line)) && p.Line <= 1048576
}

// readText is the stack whose text s is, by the chapter's word alone.
func readText(s string) ([]place.Place, bool) {
	if s == "" {
		return nil, true
	}
	var l []place.Place
	for _, one := range strings.Split(s, " < ") {
		m := onePlace.FindStringSubmatch(one)
		if m == nil {
			return nil, false
		}
		n, err := strconv.Atoi(m[2])
		if err != nil || n > 1048576 {
			return nil, false
		}
		l = append([]place.Place{{Name: m[1], Line: n}}, l...)
	}
	return l, len(l) <= 64
}

// folded is Fold by the chapter's word, over letters: texts are held against texts.
func folded(s string) string {
	var runs []string
	alone := ""
	end := func() {
		if alone != "" {
			runs = append(runs, alone+" x1")
		}
		alone = ""
	}
	for s != "" {
		best, times := 0, 0
		for p := 1; p <= 8 && p <= len(s); p++ {
			k := 0
			for strings.HasPrefix(s, strings.Repeat(s[:p], k+1)) {
				k++
			}
			if k >= 2 && p*k > best*times {
				best, times = p, k
			}
		}
		if best == 0 {
			alone += s[:1]
			s = s[1:]
			continue
		}
		end()
		runs = append(runs, s[:best]+" x"+strconv.Itoa(times))
		s = s[best*times:]
	}
	end()
	return strings.Join(runs, "; ")
}

// foldedLetters is Fold over letters, written like folded.
func foldedLetters(l []place.Run) string {
	var s []string
	for _, r := range l {
		word := ""
		for _, p := range r.Places {
			word += p.Name
		}
		s = append(s, word+" x"+strconv.Itoa(r.Times))
	}
	return strings.Join(s, "; ")
}

// forest is a tree as the list of its stacks, written; the node's number is the index.
type forest struct{ stacks []string }

func (f *forest) push(at int, p place.Place) int {
	s := strings.TrimPrefix(f.stacks[at]+" "+written([]place.Place{p}), " ")
	for n, t := range f.stacks {
		if s == t {
			return n
		}
	}
	f.stacks = append(f.stacks, s)
	return len(f.stacks) - 1
}

func (f *forest) find(s string) int {
	for n, t := range f.stacks {
		if s == t {
			return n
		}
	}
	return -1
}

func (f *forest) parent(n int) int {
	l := places(f.stacks[n])
	return f.find(written(l[:len(l)-1]))
}

// short is a short number, by division.
func short(n int) string {
	if n < 128 {
		return string([]byte{byte(n)})
	}
	return string([]byte{byte(n%128 + 128)}) + short(n/128)
}

// told is a tree's bytes, by the chapter's word.
func (f *forest) told() string {
	s := short(len(f.stacks) - 1)
	for n := 1; n < len(f.stacks); n++ {
		l := places(f.stacks[n])
		p := l[len(l)-1]
		s += short(n-f.parent(n)) + short(len(p.Name)) + p.Name + short(p.Line)
	}
	return s
}

// unshort reads a short number of any length below 10 bytes.
func unshort(s *string) (int, bool) {
	n := 0
	for i := 0; i < len(*s) && i < 9; i++ {
		b := int((*s)[i])
		n += b % 128 << (7 * i)
		if b < 128 {
			had := (*s)[:i+1]
			*s = (*s)[i+1:]
			return n, short(n) == had
		}
	}
	return 0, false
}

// readTold is the tree whose bytes s is, by the chapter's word.
func readTold(s string) (*forest, bool) {
	f := &forest{stacks: []string{""}}
	count, ok := unshort(&s)
	if !ok || count > 4095 {
		return nil, false
	}
	for i := 1; i <= count; i++ {
		back, ok1 := unshort(&s)
		size, ok2 := unshort(&s)
		if !ok1 || !ok2 || back < 1 || back > i || size > len(s) {
			return nil, false
		}
		name := s[:size]
		s = s[size:]
		line, ok := unshort(&s)
		p := place.Place{Name: name, Line: line}
		if !ok || !mayBe(p) || len(places(f.stacks[i-back])) >= 64 || f.push(i-back, p) != i {
			return nil, false
		}
	}
	return f, s == ""
}
