package deed

import (
	"encoding/binary"
	"math"
	"reflect"
	"slices"
	"strings"
	"sync"
	"testing"

	"charterhouse/api"
	"charterhouse/sum"
)

// plain returns a transaction without errors, with these Ins.
func plain(ins ...api.In) api.Deed {
	return api.Deed{Ins: ins, Outs: 2, Weight: 300, Fee: 7}
}

// inputs returns n Ins that differ in both fields.
func inputs(n int) []api.In {
	var ins []api.In
	for i := range n {
		ins = append(ins, api.In{ID: uint64(i) + 1000, At: i % 16})
	}
	return ins
}

// bytesOf returns the encoding of a transaction, whatever its fields are; count is its number of Ins.
func bytesOf(count int, d api.Deed) string {
	b := []byte{'D', byte(count)}
	for _, in := range d.Ins {
		b = binary.BigEndian.AppendUint64(b, in.ID)
		b = append(b, byte(in.At))
	}
	b = append(b, byte(d.Outs))
	b = binary.BigEndian.AppendUint16(b, uint16(d.Weight))
	return string(binary.BigEndian.AppendUint16(b, uint16(d.Fee)))
}

// same reports whether two transactions have the same fields; nil and empty Ins are equivalent.
func same(a, b api.Deed) bool {
	return slices.Equal(a.Ins, b.Ins) && a.Outs == b.Outs && a.Weight == b.Weight && a.Fee == b.Fee
}

// zero reports whether all fields of a transaction have their zero value.
func zero(d api.Deed) bool { return same(d, api.Deed{}) }

// expectError checks Check, and that Encode and ID return its error and nothing else.
func expectError(t *testing.T, d api.Deed, want api.Errno) {
	t.Helper()
	if got := Check(d); got != want {
		t.Errorf("Check(%+v) = %d, want %d", d, got, want)
	}
	s, e := Encode(d)
	if e != want || want != api.OK && s != "" {
		t.Errorf("Encode(%+v) = %q, %d, want error %d", d, s, e, want)
	}
	id, e := ID(d)
	if e != want || want != api.OK && id != 0 {
		t.Errorf("ID(%+v) = %d, %d, want error %d", d, id, e, want)
	}
}

// expectDecode checks an error of Decode, and that there is no transaction with it.
func expectDecode(t *testing.T, s string, want api.Errno) {
	t.Helper()
	d, e := Decode(s)
	if e != want {
		t.Errorf("Decode(%q) has error %d, want %d", s, e, want)
	}
	if e != api.OK && !zero(d) {
		t.Errorf("Decode(%q) = %+v with error %d", s, d, e)
	}
}

func TestCheckNumberOfIns(t *testing.T) {
	for n := range 300 {
		want := api.OK
		if n > 8 {
			want = api.ErrLarge
		}
		ins := make([]api.In, n)
		for i := range ins {
			ins[i].ID = uint64(i)
		}
		expectError(t, plain(ins...), want)
	}
	expectError(t, plain(make([]api.In, 1<<16)...), api.ErrLarge)
	expectError(t, plain([]api.In{}...), api.OK)
	expectError(t, api.Deed{Ins: []api.In{}, Outs: 1, Weight: 1}, api.OK)
}

// TestCheckRanges checks the ends of each range, the numbers next to them, and numbers that an encoding would cut to ones in range.
func TestCheckRanges(t *testing.T) {
	fields := []struct {
		name      string
		low, high int
		set       func(d *api.Deed, n int)
	}{
		{"At", 0, 15, func(d *api.Deed, n int) { d.Ins[0].At = n }},
		{"At of the last one", 0, 15, func(d *api.Deed, n int) { d.Ins[7].At = n }},
		{"Outs", 1, 16, func(d *api.Deed, n int) { d.Outs = n }},
		{"Weight", 1, 1000, func(d *api.Deed, n int) { d.Weight = n }},
		{"Fee", 0, 1000, func(d *api.Deed, n int) { d.Fee = n }},
	}
	others := []int{math.MinInt, math.MinInt + 1, -65536, -65535, -256, -255, -2, -1, 0, 1, 127, 128, 255, 256, 257,
		999, 1024, 32768, 65535, 65536, 65537, 1<<32 + 1, 1<<48 + 1, math.MaxInt - 1, math.MaxInt}
	for _, field := range fields {
		t.Run(field.name, func(t *testing.T) {
			ends := []int{field.low - 1, field.low, field.low + 1, field.high - 1, field.high, field.high + 1}
			for _, n := range append(ends, others...) {
				d := plain(inputs(8)...)
				field.set(&d, n)
				want := api.OK
				if n < field.low || n > field.high {
					want = api.ErrArg
				}
				expectError(t, d, want)
			}
		})
	}
}

func TestCheckAtOfEachIn(t *testing.T) {
	for n := 1; n <= 8; n++ {
		for i := range n {
			for _, at := range []int{-1, 16} {
				d := plain(inputs(n)...)
				d.Ins[i].At = at
				expectError(t, d, api.ErrArg)
			}
		}
	}
}

func TestCheckEqualIns(t *testing.T) {
	for n := 2; n <= 8; n++ {
		for i := range n {
			for j := range i {
				d := plain(inputs(n)...)
				d.Ins[i] = d.Ins[j]
				expectError(t, d, api.ErrTwice)
			}
		}
	}
	all := make([]api.In, 8)
	expectError(t, plain(all...), api.ErrTwice)
}

func TestCheckInsThatDifferInOneField(t *testing.T) {
	for bit := range 64 {
		expectError(t, plain(api.In{ID: 5, At: 3}, api.In{ID: 5 ^ 1<<bit, At: 3}), api.OK)
	}
	for a := range 16 {
		for b := range 16 {
			want := api.OK
			if a == b {
				want = api.ErrTwice
			}
			expectError(t, plain(api.In{ID: 5, At: a}, api.In{ID: 5, At: b}), want)
		}
	}
	expectError(t, plain(api.In{ID: 1, At: 2}, api.In{ID: 2, At: 1}), api.OK)
	var ins []api.In
	for at := range 8 {
		ins = append(ins, api.In{ID: math.MaxUint64, At: at * 2})
	}
	expectError(t, plain(ins...), api.OK)
}

// TestCheckOrder combines the errors of Check in all ways: the one that is mentioned first is returned.
func TestCheckOrder(t *testing.T) {
	errors := []struct {
		want  api.Errno
		apply func(d *api.Deed)
	}{
		{api.ErrLarge, func(d *api.Deed) { d.Ins = append(d.Ins, inputs(9)...) }},
		{api.ErrArg, func(d *api.Deed) { d.Ins = append(d.Ins, api.In{ID: 7, At: 16}) }},
		{api.ErrTwice, func(d *api.Deed) { d.Ins = append([]api.In{{ID: 9}, {ID: 9}}, d.Ins...) }},
		{api.ErrArg, func(d *api.Deed) { d.Outs = 0 }},
		{api.ErrArg, func(d *api.Deed) { d.Weight = 1001 }},
		{api.ErrArg, func(d *api.Deed) { d.Fee = -1 }},
	}
	for set := range 1 << len(errors) {
		d, want := plain(), api.OK
		for i, e := range errors {
			if set>>i&1 == 0 {
				continue
			}
			e.apply(&d)
			if want == api.OK {
				want = e.want
			}
		}
		expectError(t, d, want)
	}
}

// Equal Ins with an At out of range are an error of At; and it does not matter whether the equal ones come first.
func TestCheckAtBeforeTwice(t *testing.T) {
	expectError(t, plain(api.In{At: 16}, api.In{At: 16}), api.ErrArg)
	expectError(t, plain(api.In{ID: 1}, api.In{ID: 1}, api.In{At: -1}), api.ErrArg)
	expectError(t, plain(api.In{At: -1}, api.In{ID: 1}, api.In{ID: 1}), api.ErrArg)
}

func TestCheckZero(t *testing.T) {
	expectError(t, api.Deed{}, api.ErrArg)
	expectError(t, api.Deed{Ins: make([]api.In, 9)}, api.ErrLarge)
	expectError(t, api.Deed{Ins: make([]api.In, 8)}, api.ErrTwice)
}

// encodings has transactions with their bytes and hashes, which were computed outside of this program, from the text of P3 and P4.
var encodings = []struct {
	name string
	d    api.Deed
	s    string
	id   uint64
}{
	{"least", api.Deed{Outs: 1, Weight: 1, Fee: 0},
		"D\x00" + "\x01" + "\x00\x01" + "\x00\x00", 12887796169484626499},
	{"greatest without Ins", api.Deed{Outs: 16, Weight: 1000, Fee: 1000},
		"D\x00" + "\x10" + "\x03\xe8" + "\x03\xe8", 8199875210632662019},
	{"one In", api.Deed{Ins: []api.In{{ID: 258, At: 3}}, Outs: 2, Weight: 300, Fee: 7},
		"D\x01" + "\x00\x00\x00\x00\x00\x00\x01\x02" + "\x03" + "\x02" + "\x01\x2c" + "\x00\x07", 8339581796475334336},
	{"two Ins", api.Deed{Ins: []api.In{{ID: 0x0123456789abcdef, At: 15}, {ID: 0xfedcba9876543210}}, Outs: 5, Weight: 0x0102, Fee: 0x0304},
		"D\x02" + "\x01\x23\x45\x67\x89\xab\xcd\xef" + "\x0f" + "\xfe\xdc\xba\x98\x76\x54\x32\x10" + "\x00" +
			"\x05" + "\x01\x02" + "\x03\x04", 9438430881461694435},
	{"three Ins", api.Deed{Ins: []api.In{{ID: math.MaxUint64, At: 15}, {}, {ID: 1 << 63, At: 8}}, Outs: 1, Weight: 255, Fee: 256},
		"D\x03" + "\xff\xff\xff\xff\xff\xff\xff\xff" + "\x0f" + "\x00\x00\x00\x00\x00\x00\x00\x00" + "\x00" +
			"\x80\x00\x00\x00\x00\x00\x00\x00" + "\x08" + "\x01" + "\x00\xff" + "\x01\x00", 5575608642411873360},
	{"eight Ins", api.Deed{Ins: []api.In{{}, {ID: 1, At: 1}, {ID: 2, At: 2}, {ID: 3, At: 3}, {ID: 4, At: 4}, {ID: 5, At: 5}, {ID: 6, At: 6}, {ID: 7, At: 7}},
		Outs: 16, Weight: 1000, Fee: 1000},
		"D\x08" + "\x00\x00\x00\x00\x00\x00\x00\x00\x00" + "\x00\x00\x00\x00\x00\x00\x00\x01\x01" +
			"\x00\x00\x00\x00\x00\x00\x00\x02\x02" + "\x00\x00\x00\x00\x00\x00\x00\x03\x03" +
			"\x00\x00\x00\x00\x00\x00\x00\x04\x04" + "\x00\x00\x00\x00\x00\x00\x00\x05\x05" +
			"\x00\x00\x00\x00\x00\x00\x00\x06\x06" + "\x00\x00\x00\x00\x00\x00\x00\x07\x07" +
			"\x10" + "\x03\xe8" + "\x03\xe8", 14315507708184218699},
}

func TestEncode(t *testing.T) {
	for _, test := range encodings {
		t.Run(test.name, func(t *testing.T) {
			if got, e := Encode(test.d); got != test.s || e != api.OK {
				t.Errorf("Encode = %q, %d, want %q", got, e, test.s)
			}
		})
	}
}

func TestDecode(t *testing.T) {
	for _, test := range encodings {
		t.Run(test.name, func(t *testing.T) {
			if got, e := Decode(test.s); !same(got, test.d) || e != api.OK {
				t.Errorf("Decode = %+v, %d, want %+v", got, e, test.d)
			}
		})
	}
}

func TestID(t *testing.T) {
	for _, test := range encodings {
		t.Run(test.name, func(t *testing.T) {
			got, e := ID(test.d)
			if got != test.id || got != sum.Of(test.s) || e != api.OK {
				t.Errorf("ID = %d, %d, want %d", got, e, test.id)
			}
		})
	}
}

// expectPair checks Encode, Decode and ID of a transaction without errors.
func expectPair(t *testing.T, d api.Deed) {
	t.Helper()
	want := bytesOf(len(d.Ins), d)
	if s, e := Encode(d); s != want || e != api.OK {
		t.Errorf("Encode(%+v) = %q, %d, want %q", d, s, e, want)
	}
	if got, e := Decode(want); !same(got, d) || e != api.OK {
		t.Errorf("Decode(%q) = %+v, %d, want %+v", want, got, e, d)
	}
	if id, e := ID(d); id != sum.Of(want) || e != api.OK {
		t.Errorf("ID(%+v) = %d, %d, want %d", d, id, e, sum.Of(want))
	}
}

func TestEachValueOfEachField(t *testing.T) {
	for n := range 9 {
		expectPair(t, plain(inputs(n)...))
	}
	for at := range 16 {
		expectPair(t, plain(api.In{ID: 77, At: at}))
	}
	for outs := 1; outs <= 16; outs++ {
		expectPair(t, api.Deed{Outs: outs, Weight: 1})
	}
	for weight := 1; weight <= 1000; weight++ {
		expectPair(t, api.Deed{Ins: inputs(1), Outs: 1, Weight: weight, Fee: 1000 - weight})
	}
	for fee := range 1001 {
		expectPair(t, api.Deed{Outs: 1, Weight: 1, Fee: fee})
	}
	for bit := range 64 {
		expectPair(t, plain(api.In{ID: 1 << bit}, api.In{ID: math.MaxUint64 ^ 1<<bit}))
	}
}

// Ins keep their order, and another order is another transaction.
func TestOrderOfIns(t *testing.T) {
	ins := inputs(4)
	id, _ := ID(plain(ins...))
	slices.Reverse(ins)
	expectPair(t, plain(ins...))
	if other, _ := ID(plain(ins...)); other == id {
		t.Errorf("ID = %d for both orders", id)
	}
}

func TestNilAndEmptyIns(t *testing.T) {
	expectPair(t, api.Deed{Ins: nil, Outs: 1, Weight: 1})
	expectPair(t, api.Deed{Ins: []api.In{}, Outs: 1, Weight: 1})
}

func TestDecodePrefixes(t *testing.T) {
	for _, test := range encodings {
		for n := range len(test.s) {
			expectDecode(t, test.s[:n], api.ErrShort)
		}
	}
}

func TestDecodeFurtherBytes(t *testing.T) {
	for _, test := range encodings {
		for _, more := range []string{"\x00", "D", "x", "\xff", test.s, strings.Repeat("\x00", 9), strings.Repeat("x", 10000)} {
			expectDecode(t, test.s+more, api.ErrForm)
		}
	}
}

func TestDecodeFirstByte(t *testing.T) {
	rest := encodings[2].s[1:]
	for c := range 256 {
		first := string([]byte{byte(c)})
		if c == 'D' {
			expectDecode(t, first, api.ErrShort)
			expectDecode(t, first+rest, api.OK)
			continue
		}
		// The first byte comes before the length, whatever that is.
		for _, s := range []string{first, first + "\x00", first + rest, first + rest[:5], first + rest + "x"} {
			expectDecode(t, s, api.ErrForm)
		}
	}
}

// TestDecodeEachNumberOfIns checks that the length comes before the limit of the number of Ins.
func TestDecodeEachNumberOfIns(t *testing.T) {
	for n := range 256 {
		s := bytesOf(n, plain(inputs(n)...))
		if len(s) != 7+9*n {
			t.Fatalf("length %d for %d Ins", len(s), n)
		}
		want := api.OK
		if n > 8 {
			want = api.ErrLarge
		}
		expectDecode(t, s, want)
		expectDecode(t, s[:len(s)-1], api.ErrShort)
		expectDecode(t, s[:2], api.ErrShort)
		expectDecode(t, s+"\x00", api.ErrForm)
	}
}

// TestDecodeRejected decodes transactions that Check rejects.
func TestDecodeRejected(t *testing.T) {
	tests := []struct {
		want api.Errno
		d    api.Deed
	}{
		{api.ErrArg, plain(api.In{ID: 1, At: 16})},
		{api.ErrArg, plain(api.In{ID: 1, At: 127})},
		{api.ErrArg, plain(api.In{ID: 1, At: 128})},
		{api.ErrArg, plain(api.In{ID: 1}, api.In{ID: 2, At: 255})},
		{api.ErrTwice, plain(api.In{ID: 1, At: 2}, api.In{ID: 1, At: 2})},
		{api.ErrTwice, plain(append(inputs(7), inputs(1)...)...)},
		{api.ErrArg, api.Deed{Outs: 0, Weight: 1, Fee: 0}},
		{api.ErrArg, api.Deed{Outs: 17, Weight: 1, Fee: 0}},
		{api.ErrArg, api.Deed{Outs: 255, Weight: 1, Fee: 0}},
		{api.ErrArg, api.Deed{Outs: 1, Weight: 0, Fee: 0}},
		{api.ErrArg, api.Deed{Outs: 1, Weight: 1001, Fee: 0}},
		{api.ErrArg, api.Deed{Outs: 1, Weight: 65535, Fee: 0}},
		{api.ErrArg, api.Deed{Outs: 1, Weight: 1, Fee: 1001}},
		{api.ErrArg, api.Deed{Outs: 1, Weight: 1, Fee: 32768}},
		{api.ErrArg, api.Deed{Outs: 1, Weight: 1, Fee: 65535}},
		{api.ErrArg, api.Deed{}},
		// Several errors at once.
		{api.ErrLarge, api.Deed{Ins: make([]api.In, 9)}},
		{api.ErrLarge, api.Deed{Ins: append(make([]api.In, 8), api.In{At: 16})}},
		{api.ErrArg, plain(api.In{ID: 1}, api.In{ID: 1}, api.In{ID: 3, At: 16})},
		{api.ErrTwice, api.Deed{Ins: make([]api.In, 2), Outs: 17, Weight: 1, Fee: 0}},
	}
	for _, test := range tests {
		s := bytesOf(len(test.d.Ins), test.d)
		expectDecode(t, s, test.want)
		expectError(t, test.d, test.want)
		// The length comes before the errors of Check.
		expectDecode(t, s[:len(s)-1], api.ErrShort)
		expectDecode(t, s+"x", api.ErrForm)
	}
}

// TestDecodeEachValueOfEachField decodes numbers that are in range only if bits of them are lost.
func TestDecodeEachValueOfEachField(t *testing.T) {
	expect := func(d api.Deed, inRange bool) {
		t.Helper()
		want := api.ErrArg
		if inRange {
			want = api.OK
		}
		expectDecode(t, bytesOf(len(d.Ins), d), want)
	}
	for n := range 256 {
		expect(plain(api.In{ID: 1, At: n}), n <= 15)
		expect(api.Deed{Outs: n, Weight: 1}, 1 <= n && n <= 16)
	}
	for n := range 65536 {
		expect(api.Deed{Outs: 1, Weight: n}, 1 <= n && n <= 1000)
		expect(api.Deed{Outs: 1, Weight: 1, Fee: n}, n <= 1000)
	}
}

func TestEncodeAndDecodeID(t *testing.T) {
	tests := []struct {
		id uint64
		s  string
	}{
		{0, "\x00\x00\x00\x00\x00\x00\x00\x00"},
		{258, "\x00\x00\x00\x00\x00\x00\x01\x02"},
		{0xfedcba9876543210, "\xfe\xdc\xba\x98\x76\x54\x32\x10"},
		{math.MaxUint64, "\xff\xff\xff\xff\xff\xff\xff\xff"},
	}
	for _, test := range tests {
		if got := EncodeID(test.id); got != test.s || len(got) != IDSize {
			t.Errorf("EncodeID(%d) = %q, want %q", test.id, got, test.s)
		}
		if got := DecodeID(test.s); got != test.id {
			t.Errorf("DecodeID(%q) = %d, want %d", test.s, got, test.id)
		}
		if got := DecodeID("\x01" + test.s); got != test.id {
			t.Errorf("DecodeID of a further byte and %q = %d, want %d", test.s, got, test.id)
		}
	}
	if got := DecodeID("\x01\x02"); got != 258 {
		t.Errorf("DecodeID of two bytes = %d", got)
	}
	if got := DecodeID(""); got != 0 {
		t.Errorf("DecodeID of no bytes = %d", got)
	}
}

func TestSpends(t *testing.T) {
	for n := range 9 {
		d := plain(inputs(n)...)
		for id := uint64(998); id < 1012; id++ {
			if got, want := Spends(d, id), id >= 1000 && id < 1000+uint64(n); got != want {
				t.Errorf("Spends(%v, %d) = %v", d, id, got)
			}
		}
	}
	// The index does not matter, nor whether there are errors.
	d := api.Deed{Ins: []api.In{{ID: 0, At: 99}, {ID: math.MaxUint64, At: -1}}}
	for id, want := range map[uint64]bool{0: true, math.MaxUint64: true, 99: false, 1: false, 1 << 63: false} {
		if got := Spends(d, id); got != want {
			t.Errorf("Spends(%v, %d) = %v", d, id, got)
		}
	}
	if Spends(api.Deed{}, 0) {
		t.Error("a transaction without Ins spends an output")
	}
}

func TestClone(t *testing.T) {
	for n := range 11 {
		whole := append(inputs(12), api.In{ID: 1, At: 99})
		d := api.Deed{Ins: whole[:n], Outs: -3, Weight: 4, Fee: 5}
		got := Clone(d)
		want := api.Deed{Ins: inputs(n), Outs: -3, Weight: 4, Fee: 5}
		if !same(got, want) || !same(d, want) {
			t.Errorf("Clone(%+v) = %+v", want, got)
		}
		again := Clone(d)
		for i := range got.Ins[:cap(got.Ins)] {
			got.Ins[:cap(got.Ins)][i] = api.In{ID: 1, At: 1}
		}
		if !slices.Equal(whole, append(inputs(12), api.In{ID: 1, At: 99})) || !same(again, want) {
			t.Errorf("the clone of %+v shares memory", want)
		}
	}
}

// P2: neither the Ins nor the unused capacity behind them are changed.
func TestArgumentsUnchanged(t *testing.T) {
	for n := range 11 {
		whole := append(inputs(12), api.In{ID: 1, At: 99})
		d := plain(whole[:n]...)
		Check(d)
		Encode(d)
		ID(d)
		if want := append(inputs(12), api.In{ID: 1, At: 99}); !slices.Equal(whole, want) {
			t.Errorf("Ins are %v after calls with %d of them", whole, n)
		}
		if !reflect.DeepEqual(d, plain(whole[:n]...)) {
			t.Errorf("the transaction is %+v", d)
		}
	}
}

// P2: changes to a result, including its capacity, change no other one.
func TestResultsShareNothing(t *testing.T) {
	for n := range 9 {
		want := plain(inputs(n)...)
		s := bytesOf(n, want)
		first, _ := Decode(s)
		second, _ := Decode(s)
		for i := range first.Ins[:cap(first.Ins)] {
			first.Ins[:cap(first.Ins)][i] = api.In{ID: 1, At: 1}
		}
		third, _ := Decode(s)
		if !same(second, want) || !same(third, want) {
			t.Errorf("Decode(%q) = %+v and %+v after a change", s, second, third)
		}
	}
}

// P2: an encoding stays what it was when the Ins change afterwards.
func TestArgumentsNotKept(t *testing.T) {
	d := plain(inputs(3)...)
	want := bytesOf(3, d)
	s, _ := Encode(d)
	d.Ins[1] = api.In{ID: 5, At: 5}
	if s != want {
		t.Errorf("encoding is %q, want %q", s, want)
	}
	expectPair(t, d)
}

// P2: a result depends only on the arguments, whatever was called before or is called meanwhile.
func TestNoState(t *testing.T) {
	var group sync.WaitGroup
	for range 8 {
		group.Go(func() {
			for range 50 {
				for _, test := range encodings {
					expectPair(t, test.d)
				}
				expectError(t, plain(api.In{}, api.In{}), api.ErrTwice)
				expectDecode(t, "D\x01", api.ErrShort)
			}
		})
	}
	group.Wait()
}

// Whatever the bytes are, Decode returns an error or the only transaction that has them as its encoding.
func FuzzDecode(f *testing.F) {
	for _, test := range encodings {
		f.Add(test.s)
		f.Add(test.s[1:])
		f.Add(test.s + "D")
	}
	f.Fuzz(func(t *testing.T, s string) {
		d, e := Decode(s)
		if e != api.OK {
			expectDecode(t, s, e)
			return
		}
		expectPair(t, d)
		if bytesOf(len(d.Ins), d) != s {
			t.Errorf("Decode(%q) = %+v", s, d)
		}
	})
}

// slowCheck is Check with every pair of Ins compared, field by field.
func slowCheck(d api.Deed) api.Errno {
	if len(d.Ins) > 8 {
		return api.ErrLarge
	}
	twice := false
	for i, a := range d.Ins {
		if a.At < 0 || a.At > 15 {
			return api.ErrArg
		}
		for _, b := range d.Ins[:i] {
			twice = twice || a.ID == b.ID && a.At == b.At
		}
	}
	switch {
	case twice:
		return api.ErrTwice
	case d.Outs < 1, d.Outs > 16, d.Weight < 1, d.Weight > 1000, d.Fee < 0, d.Fee > 1000:
		return api.ErrArg
	}
	return api.OK
}

func FuzzCheck(f *testing.F) {
	f.Add("", 1, 1, 0)
	f.Add("\x01\x02\x01\x03", 16, 1000, 1000)
	f.Add("\x01\x02\x01\x02\x05\x10", 0, 0, -1)
	f.Fuzz(func(t *testing.T, pairs string, outs, weight, fee int) {
		d := api.Deed{Outs: outs, Weight: weight, Fee: fee}
		for i := 0; i+1 < len(pairs); i += 2 {
			d.Ins = append(d.Ins, api.In{ID: uint64(pairs[i]), At: int(int8(pairs[i+1]))})
		}
		expectError(t, d, slowCheck(d))
	})
}
