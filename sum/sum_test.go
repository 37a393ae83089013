package sum

import (
	"math"
	"math/big"
	"strings"
	"sync"
	"testing"
)

// byteRange returns the bytes from first to last, in order.
func byteRange(first, last int) string {
	var b strings.Builder
	for c := first; c <= last; c++ {
		b.WriteByte(byte(c))
	}
	return b.String()
}

// The expected values of the tables were computed outside of this program, from the text of P3.

func TestOf(t *testing.T) {
	tests := []struct {
		name, s string
		want    uint64
	}{
		{"empty", "", 14695981039346656037},
		{"zero byte", "\x00", 12638153115695167455},
		{"one letter", "a", 12638187200555641996},
		{"another letter", "D", 12638219086392860115},
		{"byte 127", "\x7f", 12638211389811462638},
		{"byte 128", "\x80", 12638293853183578463},
		{"byte 255", "\xff", 12638352127299873646},
		{"two letters", "ab", 620445648566982762},
		{"the same in reverse", "ba", 623241706636955660},
		{"two zero bytes", "\x00\x00", 590684067820433389},
		{"word", "foobar", 9625390261332436968},
		{"longer word", "charterhouse", 5305540062308992476},
		{"two bytes of one rune", "\xc3\xa9", 775207407765167617},
		{"invalid UTF-8", "\xff\xfe", 763861547275929008},
		{"high and low bytes", "a\x80\x00\xffz", 7904452671362879401},
		{"bytes from 128 to 255", byteRange(128, 255), 13976976130056184997},
		{"all bytes", byteRange(0, 255), 4774620800949106213},
		{"long", strings.Repeat("x", 100000), 18271982368804990885},
	}
	for _, test := range tests {
		t.Run(test.name, func(t *testing.T) {
			if got := Of(test.s); got != test.want {
				t.Errorf("Of = %d, want %d", got, test.want)
			}
		})
	}
}

func TestMix(t *testing.T) {
	const most = math.MaxUint64
	tests := []struct {
		a, b, c, want uint64
	}{
		{0, 0, 0, 0},
		{1, 0, 0, 16294208416658607535},
		{0, 1, 0, 6238072747940578789},
		{0, 0, 1, 10723151776964510365},
		{1, 2, 3, 12180611904899303716},
		{3, 2, 1, 3263990952504733897},
		{7, 1, 1000, 15895914800383219536},
		{12345, 7, 14695981039346656037, 1059745678003861382},
		{1 << 30, 1 << 27, 1 << 31, 6942242139078310073},
		{1 << 63, 1 << 63, 1 << 63, 12903128154664746336},
		{most, 0, 0, 3703370420611038912},
		{0, most, 0, 13029008266876403067},
		{0, 0, most, 11087231855269479744},
		{most, 1, most, 6223415393892265009},
		{1, most, 1, 2767624998676181383},
		{most - 1, most - 2, most - 3, 13460609428970554980},
		{most, most, most, 12174437010317428735},
	}
	for _, test := range tests {
		if got := Mix(test.a, test.b, test.c); got != test.want {
			t.Errorf("Mix(%d, %d, %d) = %d, want %d", test.a, test.b, test.c, got, test.want)
		}
	}
}

// number returns the integer that decimal digits denote.
func number(digits string) *big.Int {
	x, ok := new(big.Int).SetString(digits, 10)
	if !ok {
		panic("not a number: " + digits)
	}
	return x
}

// reduce returns x modulo 2^64.
func reduce(x *big.Int) *big.Int {
	return x.Mod(x, new(big.Int).Lsh(big.NewInt(1), 64))
}

// slowOf is Of with integers of any size, reduced after each step.
func slowOf(s string) uint64 {
	x, factor := number("14695981039346656037"), number("1099511628211")
	for _, c := range []byte(s) {
		x.Xor(x, big.NewInt(int64(c)))
		reduce(x.Mul(x, factor))
	}
	return x.Uint64()
}

// slowMix is Mix with integers of any size, reduced after each step.
func slowMix(a, b, c uint64) uint64 {
	wide := func(n uint64) *big.Int { return new(big.Int).SetUint64(n) }
	x := wide(a)
	xorShifted := func(n uint) { x.Xor(x, new(big.Int).Rsh(x, n)) }
	times := func(digits string) { reduce(x.Mul(x, number(digits))) }

	times("11400714819323198485")
	reduce(x.Add(x, wide(b)))
	xorShifted(30)
	times("13787848793156543929")
	reduce(x.Add(x, wide(c)))
	xorShifted(27)
	times("10723151780598845931")
	xorShifted(31)
	return x.Uint64()
}

func TestOfEachByteAlone(t *testing.T) {
	for c := range 256 {
		s := string([]byte{byte(c)})
		if got, want := Of(s), slowOf(s); got != want {
			t.Errorf("Of(%q) = %d, want %d", s, got, want)
		}
	}
}

func TestOfEachLength(t *testing.T) {
	all := byteRange(0, 255)
	for n := range len(all) + 1 {
		s := all[len(all)-n:]
		if got, want := Of(s), slowOf(s); got != want {
			t.Errorf("Of(last %d bytes) = %d, want %d", n, got, want)
		}
	}
}

func TestMixOfBoundaries(t *testing.T) {
	numbers := []uint64{0, 1, 2, 7, 255, 1<<27 - 1, 1 << 30, 1<<31 + 1, math.MaxUint32, 1 << 32,
		1<<63 - 1, 1 << 63, math.MaxUint64 - 2, math.MaxUint64 - 1, math.MaxUint64}
	for _, a := range numbers {
		for _, b := range numbers {
			for _, c := range numbers {
				if got, want := Mix(a, b, c), slowMix(a, b, c); got != want {
					t.Fatalf("Mix(%d, %d, %d) = %d, want %d", a, b, c, got, want)
				}
			}
		}
	}
}

// P2: a result depends only on the arguments, whatever was called before or is called meanwhile.
func TestNoState(t *testing.T) {
	var group sync.WaitGroup
	for range 8 {
		group.Go(func() {
			for i := range 200 {
				Of(strings.Repeat("\xff", i))
				if got := Of("foobar"); got != 9625390261332436968 {
					t.Errorf("Of = %d after other calls", got)
				}
				Mix(math.MaxUint64, uint64(i), 5)
				if got := Mix(1, 2, 3); got != 12180611904899303716 {
					t.Errorf("Mix = %d after other calls", got)
				}
			}
		})
	}
	group.Wait()
}

// P2: equal strings have equal hashes, wherever their bytes are in memory.
func TestOfPartOfString(t *testing.T) {
	whole := "xxfoobarxx"
	if got := Of(whole[2:8]); got != Of("foobar") {
		t.Errorf("Of(part) = %d", got)
	}
	if got := Of(whole[5:5]); got != Of("") {
		t.Errorf("Of(empty part) = %d", got)
	}
}

func FuzzOf(f *testing.F) {
	f.Add("")
	f.Add("a\x80\xff")
	f.Fuzz(func(t *testing.T, s string) {
		if got, want := Of(s), slowOf(s); got != want {
			t.Errorf("Of(%q) = %d, want %d", s, got, want)
		}
	})
}

func FuzzMix(f *testing.F) {
	f.Add(uint64(0), uint64(0), uint64(0))
	f.Add(uint64(math.MaxUint64), uint64(1), uint64(1<<63))
	f.Fuzz(func(t *testing.T, a, b, c uint64) {
		if got, want := Mix(a, b, c), slowMix(a, b, c); got != want {
			t.Errorf("Mix(%d, %d, %d) = %d, want %d", a, b, c, got, want)
		}
	})
}
