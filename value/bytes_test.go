package value_test

import (
	"encoding/binary"
	"math"
	"strings"
	"testing"

	"errata/api"
	"errata/value"
)

// bytesOf are a value's bytes as the chapter says them.
func bytesOf(v api.Value) string {
	b := []byte{v.Kind}
	addFloat := func(x float64) {
		if x != x {
			b = append(b, "\x7f\xf8\x00\x00\x00\x00\x00\x00"...)
			return
		}
		b = binary.BigEndian.AppendUint64(b, math.Float64bits(x))
	}
	switch v.Kind {
	case api.ValBool:
		b = append(b, byte(v.Int))
	case api.ValInt:
		b = binary.BigEndian.AppendUint64(b, uint64(v.Int))
	case api.ValFloat:
		addFloat(v.Re)
	case api.ValComplex:
		addFloat(v.Re)
		addFloat(v.Im)
	case api.ValText, api.ValBytes:
		b = binary.BigEndian.AppendUint16(b, uint16(len(v.Text)))
		b = append(b, v.Text...)
	case api.ValList:
		b = binary.BigEndian.AppendUint16(b, uint16(len(v.List)))
		for _, item := range v.List {
			b = append(b, bytesOf(item)...)
		}
	}
	return string(b)
}

func TestP2_6Encode(t *testing.T) {
	for _, v := range someValues() {
		if s, e := value.Encode(v); s != bytesOf(v) || e != api.OK {
			t.Errorf("Encode(%v): %x, %d, not %x", v, s, e, bytesOf(v))
		}
	}
	for i, x := range []struct {
		v api.Value
		s string
	}{
		{none(), "\x00"}, {truth(false), "\x01\x00"}, {truth(true), "\x01\x01"},
		{integer(258), "\x02\x00\x00\x00\x00\x00\x00\x01\x02"}, {integer(-2), "\x02\xff\xff\xff\xff\xff\xff\xff\xfe"}, {integer(math.MinInt64), "\x02\x80\x00\x00\x00\x00\x00\x00\x00"},
		{float(1), "\x03\x3f\xf0\x00\x00\x00\x00\x00\x00"}, {float(minus0), "\x03\x80\x00\x00\x00\x00\x00\x00\x00"},
		{float(minusNaN), "\x03\x7f\xf8\x00\x00\x00\x00\x00\x00"}, {float(oddNaN), "\x03\x7f\xf8\x00\x00\x00\x00\x00\x00"},
		{pair(1, oddNaN), "\x04\x3f\xf0\x00\x00\x00\x00\x00\x00\x7f\xf8\x00\x00\x00\x00\x00\x00"},
		{words("a"), "\x05\x00\x01a"}, {words(""), "\x05\x00\x00"}, {octets("\xff\x00"), "\x06\x00\x02\xff\x00"},
		{list(), "\x07\x00\x00"}, {list(none()), "\x07\x00\x01\x00"}, {list(list(), words("b")), "\x07\x00\x02\x07\x00\x00\x05\x00\x01b"},
	} {
		if s, e := value.Encode(x.v); s != x.s || e != api.OK {
			t.Errorf("%d: %x, %d", i, s, e)
		}
	}
	if s, _ := value.Encode(words(strings.Repeat("w", 4096))); s[:3] != "\x05\x10\x00" || len(s) != 4099 {
		t.Errorf("%x", s[:3])
	}
	for i, v := range ill() {
		if s, e := value.Encode(v); s != "" || e != api.ErrValue {
			t.Errorf("Encode of the ill value %d: %.20x, %d", i, s, e)
		}
	}
}

func TestP2_6Decode(t *testing.T) {
	for _, v := range someValues() {
		if read, e := value.Decode(bytesOf(v)); !alike(read, v) || e != api.OK {
			t.Errorf("Decode(%.60x): %v, %d", bytesOf(v), read, e)
		}
	}
}

// noBytes are bytes of no value.
func noBytes() []string {
	all := []string{
		"", "\x00\x00", "\x01", "\x01\x02", "\x01\xff", "\x01\x00\x00", "\x02", "\x02\x00\x00\x00\x00\x00\x00\x01", "\x02\x00\x00\x00\x00\x00\x00\x00\x01\x02",
		"\x03\x7f\xf8\x00\x00\x00\x00\x00\x01", "\x03\xff\xf8\x00\x00\x00\x00\x00\x00", "\x03\x7f\xf0\x00\x00\x00\x00\x00\x01", "\x03\x7f\xff\xff\xff\xff\xff\xff\xff",
		"\x04\x3f\xf0\x00\x00\x00\x00\x00\x00", "\x04\x7f\xf8\x00\x00\x00\x00\x00\x00\x7f\xf8\x00\x00\x00\x00\x00\x01", "\x04\xff\xf8\x00\x00\x00\x00\x00\x00\x7f\xf8\x00\x00\x00\x00\x00\x00",
		"\x05", "\x05\x00", "\x05\x00\x01", "\x05\x00\x01ab", "\x05\x01\x00a", "\x05\xff\xffa", "\x06\x00\x02a", "\x06\x00\x00a",
		"\x07", "\x07\x00", "\x07\x00\x01", "\x07\x00\x02\x00", "\x07\x00\x01\x00\x00", "\x07\x00\x01\x08", "\x07\x00\x01\x01\x02", "\x07\xff\xff",
		"\x05\x10\x01" + strings.Repeat("w", 4097), "\x06\x10\x01" + strings.Repeat("w", 4097),
		strings.Repeat("\x07\x00\x01", 16) + "\x07\x00\x00", strings.Repeat("\x07\x00\x01", 17) + "\x00",
		bytesOf(many(1024, none())), bytesOf(list(many(1023, none()))), bytesOf(many(512, list(none()))), "\x07\xff\xff" + strings.Repeat("\x00", 65535),
		strings.Repeat("\x07\x00\x01", 1<<23), strings.Repeat("\x07\x00\x02", 1<<20),
	}
	for kind := 8; kind < 256; kind++ {
		all = append(all, string([]byte{byte(kind)}), string([]byte{byte(kind), 0, 0}))
	}
	return all
}

func TestP2_6DecodeOfNoBytes(t *testing.T) {
	for _, s := range noBytes() {
		if v, e := value.Decode(s); !alike(v, none()) || e != api.ErrForm {
			t.Errorf("Decode(%.60x): %v, %d", s, v, e)
		}
	}
	for _, v := range someValues() {
		s := bytesOf(v)
		if _, e := value.Decode(s + "\x00"); e != api.ErrForm {
			t.Errorf("Decode(%.60x), a byte more: %d", s, e)
		}
		for i := range min(len(s), 200) {
			if read, e := value.Decode(s[:i]); !alike(read, none()) || e != api.ErrForm {
				t.Errorf("Decode(%.60x): %v, %d", s[:i], read, e)
			}
		}
	}
}

func TestP2_6DecodeOfSpoiltBytes(t *testing.T) {
	for _, v := range someValues() {
		s := bytesOf(v)
		if len(s) > 60 {
			continue
		}
		for i := range len(s) {
			for _, b := range []byte{0, 1, 2, 3, 5, 7, 8, 0x7F, 0xFF, s[i] + 1, s[i] ^ 0x80} {
				spoilt := s[:i] + string([]byte{b}) + s[i+1:]
				read, e := value.Decode(spoilt)
				if e == api.OK && (value.Check(read) != api.OK || bytesOf(read) != spoilt) || e != api.OK && (e != api.ErrForm || !alike(read, none())) {
					t.Errorf("Decode(%x): %v, %d", spoilt, read, e)
				}
			}
		}
	}
}

// TestP2_7ThereAndBackAsBytes: Decode of Encode is the value, Encode of what Decode tells the bytes.
func TestP2_7ThereAndBackAsBytes(t *testing.T) {
	for _, v := range someValues() {
		s, _ := value.Encode(v)
		read, e := value.Decode(s)
		if !alike(read, v) || e != api.OK {
			t.Errorf("Decode(%.60x): %v, %d", s, read, e)
		}
		if again, _ := value.Encode(read); again != s {
			t.Errorf("%x, not %x", again, s)
		}
	}
	for _, x := range someFloats() {
		s, _ := value.Encode(float(x))
		if read, e := value.Decode(s); !alike(read, float(x)) || e != api.OK {
			t.Errorf("Decode(%x): %v, %d", s, read, e)
		}
	}
}
