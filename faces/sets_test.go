package faces_test

import (
	"math/rand"
	"strings"
	"testing"

	"errata/api"
	"errata/faces"
)

func sayMethods(t *testing.T, face uint8, want uint32, wrong api.Errno) {
	t.Helper()
	if set, e := faces.Methods(face); set != want || e != wrong {
		t.Errorf("Methods(%d): %b %d, not %b %d", face, set, e, want, wrong)
	}
}

func sayFollows(t *testing.T, one, other uint8, want bool, wrong api.Errno) {
	t.Helper()
	if ok, e := faces.Follows(one, other); ok != want || e != wrong {
		t.Errorf("Follows(%d, %d): %t %d, not %t %d", one, other, ok, e, want, wrong)
	}
}

func sayClosure(t *testing.T, set, want uint32) {
	t.Helper()
	if got := faces.Closure(set); got != want {
		t.Errorf("Closure(%b): %b, not %b", set, got, want)
	}
}

func sayCore(t *testing.T, set, want uint32) {
	t.Helper()
	if got := faces.Core(set); got != want {
		t.Errorf("Core(%b): %b, not %b", set, got, want)
	}
}

// coreOf is the set of those of some faces that follow from no other one; no two faces have the same methods.
func coreOf(set uint32) uint32 {
	var core uint32
	for face := uint8(1); face <= most; face++ {
		spare := false
		for other := uint8(1); other <= most; other++ {
			spare = spare || other != face && in(set, other) && methodsOf(other)&methodsOf(face) == methodsOf(face)
		}
		if in(set, face) && !spare {
			core |= 1 << face
		}
	}
	return core
}

// someSets are sets of faces: the small ones, the great ones, and some that were drawn; with bits that stand for none, too.
func someSets() []uint32 {
	draw := rand.New(rand.NewSource(65))
	all := []uint32{0, everyone, 1<<32 - 1, 1, 1 << 20, 1 << 31, ^uint32(everyone)}
	for one := range 32 {
		for other := range 32 {
			all = append(all, 1<<one|1<<other, everyone&^(1<<one|1<<other))
		}
	}
	for range 5000 {
		all = append(all, draw.Uint32(), draw.Uint32()&draw.Uint32()&draw.Uint32(), draw.Uint32()&everyone)
	}
	return all
}

func TestP6_5Methods(t *testing.T) {
	for face := uint8(1); face <= most; face++ {
		sayMethods(t, face, methodsOf(face), api.OK)
	}
	sayMethods(t, api.FaceWhole, 1<<1|1<<2|1<<4|1<<6, api.OK)
	sayMethods(t, api.FaceNobody, 1<<15, api.OK)
	sayMethods(t, api.FaceAny, 0, api.OK)
	for _, face := range noFaces() {
		sayMethods(t, face, 0, api.ErrFace)
	}
}

func TestP6_5Follows(t *testing.T) {
	for one := uint8(1); one <= most; one++ {
		for other := uint8(1); other <= most; other++ {
			sayFollows(t, one, other, methodsOf(one)|methodsOf(other) == methodsOf(one), api.OK)
		}
		for _, none := range noFaces() {
			sayFollows(t, one, none, false, api.ErrFace)
			sayFollows(t, none, one, false, api.ErrFace)
		}
	}
	sayFollows(t, 0, 0, false, api.ErrFace)
	sayFollows(t, 20, 20, false, api.ErrFace)
}

func TestP6_5FollowsExamples(t *testing.T) {
	sayFollows(t, api.FaceTimedError, api.FaceTimer, true, api.OK)
	sayFollows(t, api.FaceTimer, api.FaceTimedError, false, api.OK)
	sayFollows(t, api.FaceNobody, api.FaceAny, true, api.OK)
	sayFollows(t, api.FaceAny, api.FaceAny, true, api.OK)
	sayFollows(t, api.FaceAny, api.FaceNobody, false, api.OK)
	sayFollows(t, api.FaceWhole, api.FaceTimedError, true, api.OK)
	sayFollows(t, api.FaceOne, api.FaceMany, false, api.OK)
	sayFollows(t, api.FaceMany, api.FaceOne, false, api.OK)
}

func TestP6_5Closure(t *testing.T) {
	sayClosure(t, setOf("error Timer"), setOf("error Timer TimedError any"))
	sayClosure(t, 0, setOf("any"))
	sayClosure(t, setOf("One Coder"), setOf("One Coder CodedCause any"))
	sayClosure(t, setOf("Whole"), setOf("error Grader Weigher Timer TimedError Whole any"))
	sayClosure(t, setOf("TimedError Grader Weigher"), setOf("error Grader Weigher Timer TimedError Whole any"))
	sayClosure(t, setOf("Nobody"), setOf("Nobody any"))
	for _, set := range someSets() {
		sayClosure(t, set, closureOf(set&everyone))
	}
}

func TestP6_5Core(t *testing.T) {
	sayCore(t, setOf("error Timer TimedError any"), setOf("TimedError"))
	sayCore(t, setOf("any"), setOf("any"))
	sayCore(t, 0, 0)
	sayCore(t, setOf("error Timer"), setOf("error Timer"))
	sayCore(t, setOf("error Timer Grader Weigher any"), setOf("error Timer Grader Weigher"))
	sayCore(t, setOf("Whole TimedError Coder One"), setOf("Whole Coder One"))
	sayCore(t, everyone, setOf("Whole CodedCause Phaser Liner Detailer Many Judge Lender Kinder Sizer Nobody"))
	for _, set := range someSets() {
		sayCore(t, set, coreOf(set&everyone))
	}
}

// TestP6_5OtherBits: the bits 0 and 20 to 31 stand for none, and are not looked at.
func TestP6_5OtherBits(t *testing.T) {
	others := ^uint32(everyone)
	for _, set := range someSets() {
		if faces.Closure(set) != faces.Closure(set|others) || faces.Core(set) != faces.Core(set|others) {
			t.Errorf("the bits that stand for none are looked at, in %b", set)
		}
		if (faces.Closure(set)|faces.Core(set))&others != 0 {
			t.Errorf("bits that stand for none are told, of %b", set)
		}
	}
}

func TestP6_6Names(t *testing.T) {
	for i, f := range table {
		face := uint8(i + 1)
		if name, e := faces.Name(face); name != f.name || e != api.OK {
			t.Errorf("Name(%d): %q %d, not %q", face, name, e, f.name)
		}
		if found, ok := faces.Named(f.name); found != face || !ok {
			t.Errorf("Named(%q): %d %t, not %d", f.name, found, ok, face)
		}
	}
	for _, face := range noFaces() {
		if name, e := faces.Name(face); name != "" || e != api.ErrFace {
			t.Errorf("Name(%d): %q %d", face, name, e)
		}
	}
}

func TestP6_6NoNames(t *testing.T) {
	bad := []string{"", " ", "Four", "\xff", "\x00", "none", strings.Repeat("any", 1000)}
	for _, f := range table {
		bad = append(bad, f.name+" ", " "+f.name, f.name+"\x00", f.name[1:], f.name[:len(f.name)-1], strings.ToUpper(f.name))
		if strings.ToLower(f.name) != f.name {
			bad = append(bad, strings.ToLower(f.name))
		}
	}
	for _, name := range bad {
		if name == "any" { // Many, without its first letter
			continue
		}
		if face, ok := faces.Named(name); face != 0 || ok {
			t.Errorf("Named(%q): %d %t", name, face, ok)
		}
	}
}

func TestP6_8Laws(t *testing.T) {
	sets := someSets()
	for i, set := range sets {
		own, closure, core := set&everyone, faces.Closure(set), faces.Core(set)
		if own&^closure != 0 || faces.Closure(closure) != closure {
			t.Errorf("Closure(%b) is %b, and of that %b", set, closure, faces.Closure(closure))
		}
		if core&^own != 0 || faces.Closure(core) != closure {
			t.Errorf("Core(%b) is %b", set, core)
		}
		if faces.Core(core) != core {
			t.Errorf("Core(%b) is %b, and of that %b", set, core, faces.Core(core))
		}
		if more := set | sets[(i+1)%len(sets)]; closure&^faces.Closure(more) != 0 {
			t.Errorf("Closure does not rise from %b to %b", set, more)
		}
	}
}
