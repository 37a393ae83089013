package msg

import (
	"encoding/binary"
	"math"
	"slices"
	"strings"
	"sync"
	"testing"
	"unsafe"

	"charterhouse/api"
)

// idKinds are the kinds that have IDs.
var idKinds = []int{1, 2, 4}

// numbers returns n IDs that differ.
func numbers(n int) []uint64 {
	var ids []uint64
	for i := range n {
		ids = append(ids, uint64(i)*0x0101010101010101+1000)
	}
	return ids
}

// bytesOf returns the encoding of a message, whatever its fields are, as far as it has one.
func bytesOf(m api.Msg) string {
	if m.Kind == 3 {
		return "\x03" + m.Body
	}
	b := []byte{byte(m.Kind), byte(len(m.IDs))}
	for _, id := range m.IDs {
		b = binary.BigEndian.AppendUint64(b, id)
	}
	return string(b)
}

// same reports whether two messages have the same fields; nil and empty IDs are equivalent.
func same(a, b api.Msg) bool {
	return a.Kind == b.Kind && slices.Equal(a.IDs, b.IDs) && a.Body == b.Body
}

// expectError checks Check, and that Encode returns its error and nothing else.
func expectError(t *testing.T, m api.Msg, want api.Errno) {
	t.Helper()
	if got := Check(m); got != want {
		t.Errorf("Check(%+v) = %d, want %d", m, got, want)
	}
	s, e := Encode(m)
	if e != want || want != api.OK && s != "" {
		t.Errorf("Encode(%+v) = %q, %d, want error %d", m, s, e, want)
	}
}

// expectDecode checks an error of Decode, and that there is no message with it.
func expectDecode(t *testing.T, s string, want api.Errno) {
	t.Helper()
	m, e := Decode(s)
	if e != want {
		t.Errorf("Decode(%q) has error %d, want %d", s, e, want)
	}
	if e != api.OK && !same(m, api.Msg{}) {
		t.Errorf("Decode(%q) = %+v with error %d", s, m, e)
	}
}

// expectPair checks Check, Encode and Decode of a message without errors.
func expectPair(t *testing.T, m api.Msg) {
	t.Helper()
	expectError(t, m, api.OK)
	want := bytesOf(m)
	if s, e := Encode(m); s != want || e != api.OK {
		t.Errorf("Encode(%+v) = %q, %d, want %q", m, s, e, want)
	}
	if got, e := Decode(want); !same(got, m) || e != api.OK {
		t.Errorf("Decode(%q) = %+v, %d, want %+v", want, got, e, m)
	}
}

// TestCheckKinds also tries numbers that an encoding would cut to a kind.
func TestCheckKinds(t *testing.T) {
	for _, kind := range idKinds {
		expectError(t, api.Msg{Kind: kind, IDs: numbers(1)}, api.OK)
	}
	expectError(t, api.Msg{Kind: 3, Body: "x"}, api.OK)
	unknown := []int{0, 5, -1, -2, -3, -4, 6, 7, 8, 127, 128, 255, 256, 257, 258, 259, 260, -255, -252, 65537, 1<<32 + 1,
		1<<32 + 3, math.MinInt, math.MinInt + 1, math.MinInt + 3, math.MaxInt - 1, math.MaxInt}
	for _, kind := range unknown {
		expectError(t, api.Msg{Kind: kind}, api.ErrArg)
		expectError(t, api.Msg{Kind: kind, IDs: numbers(1)}, api.ErrArg)
		expectError(t, api.Msg{Kind: kind, Body: "x"}, api.ErrArg)
	}
}

func TestCheckNumberOfIDs(t *testing.T) {
	for _, kind := range idKinds {
		expectError(t, api.Msg{Kind: kind}, api.ErrForm)
		expectError(t, api.Msg{Kind: kind, IDs: []uint64{}}, api.ErrForm)
		for n := 1; n <= 20; n++ {
			expectError(t, api.Msg{Kind: kind, IDs: numbers(n)}, api.OK)
		}
		// 257 IDs and more have a number whose lowest byte is in range.
		for n := 21; n < 300; n++ {
			expectError(t, api.Msg{Kind: kind, IDs: numbers(n)}, api.ErrLarge)
		}
		expectError(t, api.Msg{Kind: kind, IDs: numbers(1<<16 + 1)}, api.ErrLarge)
	}
}

func TestCheckLengthOfBody(t *testing.T) {
	for n := range 300 {
		want := api.OK
		switch {
		case n == 0:
			want = api.ErrForm
		case n > 100:
			want = api.ErrLarge
		}
		// Bytes count, not characters.
		for _, c := range []string{"\x00", "x", "\xff"} {
			expectError(t, api.Msg{Kind: 3, Body: strings.Repeat(c, n)}, want)
		}
	}
	expectError(t, api.Msg{Kind: 3, Body: strings.Repeat("\u00e9", 50)}, api.OK)
	expectError(t, api.Msg{Kind: 3, Body: strings.Repeat("\u00e9", 51)}, api.ErrLarge)
	expectError(t, api.Msg{Kind: 3, Body: strings.Repeat("x", 1<<20)}, api.ErrLarge)
}

func TestCheckOtherPart(t *testing.T) {
	for _, n := range []int{1, 2, 20, 21, 300} {
		for _, body := range []int{0, 1, 100, 101} {
			expectError(t, api.Msg{Kind: 3, IDs: numbers(n), Body: strings.Repeat("x", body)}, api.ErrForm)
		}
	}
	expectError(t, api.Msg{Kind: 3, IDs: []uint64{0}, Body: "x"}, api.ErrForm)
	expectError(t, api.Msg{Kind: 3, IDs: []uint64{}, Body: "x"}, api.OK)
	for _, kind := range idKinds {
		for _, body := range []int{1, 100, 101} {
			for _, n := range []int{0, 1, 20, 21} {
				expectError(t, api.Msg{Kind: kind, IDs: numbers(n), Body: strings.Repeat("x", body)}, api.ErrForm)
			}
		}
		expectError(t, api.Msg{Kind: kind, IDs: numbers(1), Body: "\x00"}, api.ErrForm)
	}
}

func TestCheckTwice(t *testing.T) {
	for n := 2; n <= 20; n++ {
		for i := range n {
			for j := range i {
				ids := numbers(n)
				ids[i] = ids[j]
				expectError(t, api.Msg{Kind: idKinds[n%3], IDs: ids}, api.ErrTwice)
			}
		}
	}
	for _, kind := range idKinds {
		expectError(t, api.Msg{Kind: kind, IDs: []uint64{7, 7}}, api.ErrTwice)
		expectError(t, api.Msg{Kind: kind, IDs: []uint64{7, 8, 7}}, api.ErrTwice)
		expectError(t, api.Msg{Kind: kind, IDs: make([]uint64, 20)}, api.ErrTwice)
		expectError(t, api.Msg{Kind: kind, IDs: []uint64{math.MaxUint64, math.MaxUint64}}, api.ErrTwice)
	}
	for bit := range 64 {
		expectError(t, api.Msg{Kind: 1, IDs: []uint64{5, 5 ^ 1<<bit}}, api.OK)
	}
}

// TestCheckOrder has two or more errors at once: the one that is mentioned first is returned.
func TestCheckOrder(t *testing.T) {
	long := strings.Repeat("x", 101)
	same21 := make([]uint64, 21)
	tests := []struct {
		name string
		m    api.Msg
		want api.Errno
	}{
		{"zero", api.Msg{}, api.ErrArg},
		{"kind, and both parts", api.Msg{Kind: 5, IDs: numbers(1), Body: "x"}, api.ErrArg},
		{"kind, and too large", api.Msg{Kind: -1, IDs: numbers(21), Body: long}, api.ErrArg},
		{"kind, and twice", api.Msg{Kind: 0, IDs: []uint64{7, 7}}, api.ErrArg},
		{"all but the empty part", api.Msg{Kind: 256, IDs: same21, Body: long}, api.ErrArg},
		{"IDs in Bring, too many", api.Msg{Kind: 3, IDs: numbers(21)}, api.ErrForm},
		{"IDs in Bring, Body too long", api.Msg{Kind: 3, IDs: numbers(1), Body: long}, api.ErrForm},
		{"IDs in Bring, twice", api.Msg{Kind: 3, IDs: []uint64{7, 7}, Body: "x"}, api.ErrForm},
		{"IDs in Bring, no Body", api.Msg{Kind: 3, IDs: numbers(1)}, api.ErrForm},
		{"Body in Announce, too long", api.Msg{Kind: 1, IDs: numbers(1), Body: long}, api.ErrForm},
		{"Body in Fetch, too many IDs", api.Msg{Kind: 2, IDs: numbers(21), Body: "x"}, api.ErrForm},
		{"Body in Missing, twice", api.Msg{Kind: 4, IDs: []uint64{7, 7}, Body: "x"}, api.ErrForm},
		{"Body in Announce, no IDs", api.Msg{Kind: 1, Body: long}, api.ErrForm},
		{"too many, twice", api.Msg{Kind: 1, IDs: same21}, api.ErrLarge},
		{"too many, the last one twice", api.Msg{Kind: 4, IDs: append(numbers(20), numbers(1)...)}, api.ErrLarge},
	}
	for _, test := range tests {
		t.Run(test.name, func(t *testing.T) { expectError(t, test.m, test.want) })
	}
}

// encodings has messages with their bytes, which are written out from the text of P6.
var encodings = []struct {
	name string
	m    api.Msg
	s    string
}{
	{"Announce", api.Msg{Kind: api.Announce, IDs: []uint64{0x0102030405060708}},
		"\x01\x01" + "\x01\x02\x03\x04\x05\x06\x07\x08"},
	{"Announce of two", api.Msg{Kind: api.Announce, IDs: []uint64{math.MaxUint64, 0}},
		"\x01\x02" + "\xff\xff\xff\xff\xff\xff\xff\xff" + "\x00\x00\x00\x00\x00\x00\x00\x00"},
	{"Fetch", api.Msg{Kind: api.Fetch, IDs: []uint64{0}},
		"\x02\x01" + "\x00\x00\x00\x00\x00\x00\x00\x00"},
	{"Fetch of three", api.Msg{Kind: api.Fetch, IDs: []uint64{1 << 63, 258, 0xfedcba9876543210}},
		"\x02\x03" + "\x80\x00\x00\x00\x00\x00\x00\x00" + "\x00\x00\x00\x00\x00\x00\x01\x02" + "\xfe\xdc\xba\x98\x76\x54\x32\x10"},
	{"Bring of one byte", api.Msg{Kind: api.Bring, Body: "\x00"}, "\x03\x00"},
	{"Bring", api.Msg{Kind: api.Bring, Body: "D\x00\x01\x00\x01\x00\x00"}, "\x03D\x00\x01\x00\x01\x00\x00"},
	{"Bring of high bytes", api.Msg{Kind: api.Bring, Body: "\xff\xc3\xa9\x80"}, "\x03\xff\xc3\xa9\x80"},
	{"Bring like a message", api.Msg{Kind: api.Bring, Body: "\x01\x01"}, "\x03\x01\x01"},
	{"Missing", api.Msg{Kind: api.Missing, IDs: []uint64{255}},
		"\x04\x01" + "\x00\x00\x00\x00\x00\x00\x00\xff"},
	{"Missing of twenty", api.Msg{Kind: api.Missing, IDs: []uint64{1, 2, 3, 4, 5, 6, 7, 8, 9, 10, 11, 12, 13, 14, 15, 16, 17, 18, 19, 20}},
		"\x04\x14" + "\x00\x00\x00\x00\x00\x00\x00\x01" + "\x00\x00\x00\x00\x00\x00\x00\x02" +
			"\x00\x00\x00\x00\x00\x00\x00\x03" + "\x00\x00\x00\x00\x00\x00\x00\x04" +
			"\x00\x00\x00\x00\x00\x00\x00\x05" + "\x00\x00\x00\x00\x00\x00\x00\x06" +
			"\x00\x00\x00\x00\x00\x00\x00\x07" + "\x00\x00\x00\x00\x00\x00\x00\x08" +
			"\x00\x00\x00\x00\x00\x00\x00\x09" + "\x00\x00\x00\x00\x00\x00\x00\x0a" +
			"\x00\x00\x00\x00\x00\x00\x00\x0b" + "\x00\x00\x00\x00\x00\x00\x00\x0c" +
			"\x00\x00\x00\x00\x00\x00\x00\x0d" + "\x00\x00\x00\x00\x00\x00\x00\x0e" +
			"\x00\x00\x00\x00\x00\x00\x00\x0f" + "\x00\x00\x00\x00\x00\x00\x00\x10" +
			"\x00\x00\x00\x00\x00\x00\x00\x11" + "\x00\x00\x00\x00\x00\x00\x00\x12" +
			"\x00\x00\x00\x00\x00\x00\x00\x13" + "\x00\x00\x00\x00\x00\x00\x00\x14"},
}

func TestEncode(t *testing.T) {
	for _, test := range encodings {
		t.Run(test.name, func(t *testing.T) {
			if got, e := Encode(test.m); got != test.s || e != api.OK {
				t.Errorf("Encode = %q, %d, want %q", got, e, test.s)
			}
		})
	}
}

func TestDecode(t *testing.T) {
	for _, test := range encodings {
		t.Run(test.name, func(t *testing.T) {
			if got, e := Decode(test.s); !same(got, test.m) || e != api.OK {
				t.Errorf("Decode = %+v, %d, want %+v", got, e, test.m)
			}
		})
	}
}

func TestEachSize(t *testing.T) {
	for _, kind := range idKinds {
		for n := 1; n <= 20; n++ {
			expectPair(t, api.Msg{Kind: kind, IDs: numbers(n)})
		}
	}
	for n := 1; n <= 100; n++ {
		expectPair(t, api.Msg{Kind: 3, Body: strings.Repeat("\xf0", n-1) + "\x00"})
	}
}

func TestEachBitAndByte(t *testing.T) {
	for bit := range 64 {
		for _, kind := range idKinds {
			expectPair(t, api.Msg{Kind: kind, IDs: []uint64{1 << bit, math.MaxUint64 ^ 1<<bit}})
		}
	}
	for c := range 256 {
		expectPair(t, api.Msg{Kind: 3, Body: string([]byte{byte(c)})})
		expectPair(t, api.Msg{Kind: 3, Body: string([]byte{'x', byte(c), byte(c)})})
	}
}

// IDs keep their order.
func TestOrderOfIDs(t *testing.T) {
	ids := []uint64{5, math.MaxUint64, 0, 3, 4}
	expectPair(t, api.Msg{Kind: 1, IDs: ids})
	slices.Reverse(ids)
	expectPair(t, api.Msg{Kind: 1, IDs: ids})
}

func TestDecodeEmpty(t *testing.T) {
	expectDecode(t, "", api.ErrShort)
}

// TestDecodePrefixes: those of Bring are encodings themselves, as long as there is a Body.
func TestDecodePrefixes(t *testing.T) {
	for _, test := range encodings {
		for n := range len(test.s) {
			s := test.s[:n]
			switch {
			case n == 0 || s[0] != 3:
				expectDecode(t, s, api.ErrShort)
			case n == 1:
				expectDecode(t, s, api.ErrForm)
			default:
				expectPair(t, api.Msg{Kind: 3, Body: s[1:]})
			}
		}
	}
}

// TestDecodeFurtherBytes: those of Bring belong to the Body.
func TestDecodeFurtherBytes(t *testing.T) {
	for _, test := range encodings {
		for _, more := range []string{"\x00", "\x01", "x", "\xff", strings.Repeat("\x00", 8), strings.Repeat("x", 9), test.s} {
			if test.m.Kind == 3 {
				expectPair(t, api.Msg{Kind: 3, Body: test.m.Body + more})
				continue
			}
			expectDecode(t, test.s+more, api.ErrForm)
		}
		want := api.ErrForm
		if test.m.Kind == 3 {
			want = api.ErrLarge
		}
		expectDecode(t, test.s+strings.Repeat("x", 10000), want)
	}
}

func TestDecodeFirstByte(t *testing.T) {
	rest := encodings[0].s[1:]
	for c := range 256 {
		first := string([]byte{byte(c)})
		switch c {
		case 1, 2, 4:
			expectDecode(t, first, api.ErrShort)
			expectDecode(t, first+rest, api.OK)
		case 3:
			expectDecode(t, first, api.ErrForm)
			expectDecode(t, first+rest, api.OK)
		default:
			// The first byte comes before everything else.
			for _, s := range []string{"", "\x00", "\x01", rest[:5], rest, rest + "x", strings.Repeat("x", 200)} {
				expectDecode(t, first+s, api.ErrArg)
			}
		}
	}
}

// TestDecodeEachNumberOfIDs checks that the length comes before the limit of the number of IDs.
func TestDecodeEachNumberOfIDs(t *testing.T) {
	for _, kind := range idKinds {
		for n := range 256 {
			s := bytesOf(api.Msg{Kind: kind, IDs: numbers(n)})
			if len(s) != 2+8*n {
				t.Fatalf("length %d for %d IDs", len(s), n)
			}
			want := api.OK
			switch {
			case n == 0:
				want = api.ErrForm
			case n > 20:
				want = api.ErrLarge
			}
			expectDecode(t, s, want)
			expectDecode(t, s[:len(s)-1], api.ErrShort)
			expectDecode(t, s+"\x00", api.ErrForm)
			if n > 0 {
				expectDecode(t, s[:2], api.ErrShort)
				expectDecode(t, s[:len(s)-8], api.ErrShort)
			}
		}
	}
}

// TestDecodeRejected decodes messages that Check rejects.
func TestDecodeRejected(t *testing.T) {
	last := append(numbers(19), numbers(1)...)
	for _, kind := range idKinds {
		tests := []struct {
			ids  []uint64
			want api.Errno
		}{
			{nil, api.ErrForm},
			{[]uint64{7, 7}, api.ErrTwice},
			{[]uint64{0, 7, 0}, api.ErrTwice},
			{last, api.ErrTwice},
			{make([]uint64, 20), api.ErrTwice},
			{numbers(21), api.ErrLarge},
			{make([]uint64, 21), api.ErrLarge},
			{numbers(255), api.ErrLarge},
		}
		for _, test := range tests {
			m := api.Msg{Kind: kind, IDs: test.ids}
			s := bytesOf(m)
			expectError(t, m, test.want)
			expectDecode(t, s, test.want)
			// The length comes before the errors of Check.
			expectDecode(t, s[:len(s)-1], api.ErrShort)
			expectDecode(t, s+"x", api.ErrForm)
		}
	}
	expectDecode(t, "\x03", api.ErrForm)
	expectDecode(t, "\x03"+strings.Repeat("x", 101), api.ErrLarge)
	expectDecode(t, "\x03"+strings.Repeat("\x00", 1<<20), api.ErrLarge)
}

// P2: neither the IDs nor the unused capacity behind them are changed.
func TestArgumentsUnchanged(t *testing.T) {
	for n := range 24 {
		for _, kind := range []int{1, 2, 3, 4, 5} {
			whole := append(numbers(25), 7, 7)
			Check(api.Msg{Kind: kind, IDs: whole[:n]})
			Encode(api.Msg{Kind: kind, IDs: whole[:n]})
			if want := append(numbers(25), 7, 7); !slices.Equal(whole, want) {
				t.Errorf("IDs are %v after calls with %d of them", whole, n)
			}
		}
	}
}

// P2: an encoding stays what it was when the IDs change afterwards.
func TestArgumentsNotKept(t *testing.T) {
	m := api.Msg{Kind: 1, IDs: numbers(3)}
	want := bytesOf(m)
	s, _ := Encode(m)
	m.IDs[1] = 5
	if s != want {
		t.Errorf("encoding is %q, want %q", s, want)
	}
	expectPair(t, m)
}

// P2: changes to the IDs of a result, including their capacity, change no other one.
func TestResultsShareNothing(t *testing.T) {
	for n := 1; n <= 20; n++ {
		want := api.Msg{Kind: 4, IDs: numbers(n)}
		s := bytesOf(want)
		first, _ := Decode(s)
		second, _ := Decode(s)
		room := first.IDs[:cap(first.IDs)]
		for i := range room {
			room[i] = 1
		}
		third, _ := Decode(s)
		if !same(second, want) || !same(third, want) {
			t.Errorf("Decode(%q) = %+v and %+v after a change", s, second, third)
		}
	}
}

// overlap reports whether two strings share memory.
func overlap(a, b string) bool {
	start := func(s string) uintptr { return uintptr(unsafe.Pointer(unsafe.StringData(s))) }
	end := func(s string) uintptr { return start(s) + uintptr(len(s)) }
	return start(a) < end(b) && start(b) < end(a)
}

// P2: a Body that is decoded is no part of the encoding, and one that is encoded no part of the result.
func TestBodySharesNothing(t *testing.T) {
	for n := 1; n <= 100; n++ {
		s := "\x03" + strings.Repeat("x", n)
		if !overlap(s[1:], s) {
			t.Fatal("overlap does not see a part of a string")
		}
		m, _ := Decode(s)
		if overlap(m.Body, s) {
			t.Errorf("the Body of %d bytes is a part of the argument", n)
		}
		again, _ := Encode(m)
		if overlap(again, m.Body) {
			t.Errorf("the encoding of a Body of %d bytes contains the argument", n)
		}
	}
}

// P2: a result depends only on the arguments, whatever was called before or is called meanwhile.
func TestNoState(t *testing.T) {
	var group sync.WaitGroup
	for range 8 {
		group.Go(func() {
			for range 50 {
				for _, test := range encodings {
					expectPair(t, test.m)
				}
				expectError(t, api.Msg{Kind: 1, IDs: []uint64{7, 7}}, api.ErrTwice)
				expectDecode(t, "\x01\x01", api.ErrShort)
			}
		})
	}
	group.Wait()
}

// slowCheck is Check with every pair of IDs compared, the kinds apart.
func slowCheck(m api.Msg) api.Errno {
	if m.Kind == 3 {
		switch {
		case len(m.IDs) != 0:
			return api.ErrForm
		case len(m.Body) > 100:
			return api.ErrLarge
		case len(m.Body) == 0:
			return api.ErrForm
		}
		return api.OK
	}
	switch {
	case m.Kind < 1 || m.Kind > 4:
		return api.ErrArg
	case len(m.Body) != 0:
		return api.ErrForm
	case len(m.IDs) > 20:
		return api.ErrLarge
	case len(m.IDs) == 0:
		return api.ErrForm
	}
	for i, a := range m.IDs {
		if slices.Contains(m.IDs[i+1:], a) {
			return api.ErrTwice
		}
	}
	return api.OK
}

// TestCheckCombinations tries all small combinations of a kind, IDs and a Body.
func TestCheckCombinations(t *testing.T) {
	lists := [][]uint64{nil, {}, {0}, {7}, {7, 7}, {7, 8}, {7, 8, 7}, numbers(19), numbers(20), make([]uint64, 20),
		numbers(21), make([]uint64, 21), numbers(256), numbers(257)}
	for kind := -2; kind <= 260; kind++ {
		for _, ids := range lists {
			for _, n := range []int{0, 1, 99, 100, 101, 256} {
				m := api.Msg{Kind: kind, IDs: ids, Body: strings.Repeat("x", n)}
				expectError(t, m, slowCheck(m))
			}
		}
	}
}

func FuzzCheck(f *testing.F) {
	f.Add(1, "\x01\x02", "")
	f.Add(3, "", "body")
	f.Add(4, "\x01\x01", "")
	f.Fuzz(func(t *testing.T, kind int, ids, body string) {
		m := api.Msg{Kind: kind, Body: body}
		for i := range len(ids) {
			m.IDs = append(m.IDs, uint64(ids[i]))
		}
		expectError(t, m, slowCheck(m))
	})
}

// slowDecode returns the error of Decode for any bytes, from the text of P7.
func slowDecode(s string) api.Errno {
	switch {
	case len(s) == 0:
		return api.ErrShort
	case !strings.Contains("\x01\x02\x03\x04", s[:1]):
		return api.ErrArg
	case s[0] == 3:
		return slowCheck(api.Msg{Kind: 3, Body: s[1:]})
	case len(s) < 2 || len(s) < 2+8*int(s[1]):
		return api.ErrShort
	case len(s) > 2+8*int(s[1]):
		return api.ErrForm
	}
	m := api.Msg{Kind: int(s[0])}
	for rest := []byte(s[2:]); len(rest) > 0; rest = rest[8:] {
		m.IDs = append(m.IDs, binary.BigEndian.Uint64(rest))
	}
	return slowCheck(m)
}

// Whatever the bytes are, Decode returns an error or the only message that has them as its encoding.
func FuzzDecode(f *testing.F) {
	for _, test := range encodings {
		f.Add(test.s)
		f.Add(test.s[1:])
		f.Add(test.s + "x")
	}
	f.Fuzz(func(t *testing.T, s string) {
		want := slowDecode(s)
		expectDecode(t, s, want)
		if want != api.OK {
			return
		}
		m, _ := Decode(s)
		expectPair(t, m)
		if bytesOf(m) != s {
			t.Errorf("Decode(%q) = %+v", s, m)
		}
	})
}
