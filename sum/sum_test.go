package sum_test

import (
	"bytes"
	"hash/adler32"
	"math/rand"
	"testing"

	"jackstay/api"
	"jackstay/sum"
)

// plain is the sum as the chapter words it, a remainder taken at each byte.
func plain(s uint32, b []byte) uint32 {
	lower, upper := int(s%65536)%65521, int(s/65536)%65521
	for _, c := range b {
		lower = (lower + int(c)) % 65521
		upper = (upper + lower) % 65521
	}
	return uint32(upper*65536 + lower)
}

// noise is n bytes that are the same in every run.
func noise(seed int64, n int) []byte {
	b := make([]byte, n)
	rand.New(rand.NewSource(seed)).Read(b)
	return b
}

// samples are bytes of many lengths: none, few, and those about the lengths at which a remainder may be put off.
func samples() [][]byte {
	list := [][]byte{nil, {}, {0}, {1}, {255}, {0, 0, 0, 0}, {255, 255, 255, 255}, []byte("Wikipedia")}
	for i, n := range []int{2, 3, 4, 5, 7, 8, 15, 16, 17, 63, 64, 65, 255, 256, 257, 1000, 3799, 3800, 3801, 3854, 5551, 5552, 5553, 5554, 11104, 11105, 65520, 65521, 65522, 65536, 100000} {
		list = append(list, noise(int64(i), n), bytes.Repeat([]byte{255}, n), make([]byte, n))
	}
	return list
}

// short are the samples of which every byte can be turned in little time.
func short() [][]byte {
	var list [][]byte
	for _, b := range samples() {
		if len(b) <= 65 {
			list = append(list, b)
		}
	}
	return list
}

func opened(t *testing.T, b, want []byte) {
	t.Helper()
	got, err := sum.Open(b)
	if err != api.OK || !bytes.Equal(got, want) {
		t.Fatalf("Open of %d bytes: %d bytes, %v: want %d bytes, no error", len(b), len(got), err, len(want))
	}
}

func refused(t *testing.T, b []byte) {
	t.Helper()
	got, err := sum.Open(b)
	if err != api.ErrSum || len(got) != 0 {
		t.Fatalf("Open(% X): % X, %v: want nothing, ErrSum", b, got, err)
	}
}

// P1.1: known sums.
func TestOfKnown(t *testing.T) {
	for text, want := range map[string]uint32{
		"":                           0x00000001,
		"\x00":                       0x00010001,
		"a":                          0x00620062,
		"abc":                        0x024D0127,
		"Wikipedia":                  0x11E60398,
		"message digest":             0x29750586,
		"abcdefghijklmnopqrstuvwxyz": 0x90860B20,
	} {
		if got := sum.Of([]byte(text)); got != want {
			t.Errorf("Of(%q) = %08X, want %08X", text, got, want)
		}
	}
}

// P1.1: of none the sum is 1, and R6: a nil part is an empty one.
func TestOfNone(t *testing.T) {
	for i, got := range []uint32{sum.Of(), sum.Of([][]byte{}...), sum.Of(nil), sum.Of([]byte{}), sum.Of(nil, []byte{}, nil)} {
		if got != 1 {
			t.Errorf("case %d: %08X, want 1", i, got)
		}
	}
	if a, b := sum.Of(nil, []byte("x"), nil), sum.Of([]byte{}, []byte("x"), []byte{}); a != b || a != sum.Of([]byte("x")) {
		t.Errorf("empty parts turn the sum: %08X, %08X", a, b)
	}
}

// P1.1: of all lengths the sum is that of its words, and of Adler-32 as others have it.
func TestOfPlain(t *testing.T) {
	for _, b := range samples() {
		got := sum.Of(b)
		if want := plain(1, b); got != want {
			t.Errorf("Of of %d bytes = %08X, want %08X", len(b), got, want)
		}
		if want := adler32.Checksum(b); got != want {
			t.Errorf("Of of %d bytes = %08X, Adler-32 is %08X", len(b), got, want)
		}
	}
}

// P1.1: each of the two numbers comes round at 65521, and not at 65520, 65522 or 65536.
func TestOfRound(t *testing.T) {
	for n := 250; n < 270; n++ {
		for last := range 256 {
			b := append(bytes.Repeat([]byte{255}, n), byte(last))
			if got, want := sum.Of(b), plain(1, b); got != want {
				t.Fatalf("Of(%d of 255, %d) = %08X, want %08X", n, last, got, want)
			}
		}
	}
}

// P1.1, P1.3: parts hang on no cuts.
func TestOfParts(t *testing.T) {
	for _, b := range samples() {
		want := plain(1, b)
		for _, at := range []int{0, 1, len(b) / 3, len(b) / 2, len(b) - 1, len(b)} {
			if at < 0 || at > len(b) {
				continue
			}
			if got := sum.Of(b[:at], b[at:]); got != want {
				t.Errorf("Of of %d bytes cut at %d = %08X, want %08X", len(b), at, got, want)
			}
			if got := sum.Of(b[:at/2], nil, b[at/2:at], b[at:]); got != want {
				t.Errorf("Of of %d bytes cut at %d and %d = %08X, want %08X", len(b), at/2, at, got, want)
			}
			if got := sum.More(sum.Of(b[:at]), b[at:]); got != want {
				t.Errorf("More of %d bytes from %d on = %08X, want %08X", len(b), at, got, want)
			}
		}
	}
}

// P1.3: a part a byte, and more parts than a few.
func TestOfManyParts(t *testing.T) {
	b := noise(7, 3000)
	var parts [][]byte
	for i := range b {
		parts = append(parts, b[i:i+1])
	}
	if got, want := sum.Of(parts...), plain(1, b); got != want {
		t.Errorf("Of of %d parts = %08X, want %08X", len(parts), got, want)
	}
}

// P1.1: parts stand in the order in which they are handed on.
func TestOfOrder(t *testing.T) {
	a, b := []byte("one"), []byte("other")
	if sum.Of(a, b) == sum.Of(b, a) || sum.Of(a, b) != plain(1, []byte("oneother")) {
		t.Errorf("Of(a, b) = %08X, Of(b, a) = %08X", sum.Of(a, b), sum.Of(b, a))
	}
}

// P1.1: both halves of what has come are taken modulo 65521, though no byte comes.
func TestMoreHalves(t *testing.T) {
	for s, want := range map[uint32]uint32{
		0:          0,
		1:          1,
		0x0000FFF0: 0x0000FFF0,
		0x0000FFF1: 0,
		0x0000FFFF: 0x0000000E,
		0xFFF00000: 0xFFF00000,
		0xFFF10000: 0,
		0xFFFF0000: 0x000E0000,
		0xFFF0FFF0: 0xFFF0FFF0,
		0xFFF1FFF1: 0,
		0xFFF2FFF3: 0x00010002,
		0xFFFFFFFF: 0x000E000E,
	} {
		for _, b := range [][]byte{nil, {}} {
			if got := sum.More(s, b); got != want {
				t.Errorf("More(%08X, none) = %08X, want %08X", s, got, want)
			}
		}
	}
}

// P1.1: from any sum on, the greatest ones among them, over any length.
func TestMorePlain(t *testing.T) {
	starts := []uint32{0, 1, 0xFFF0, 0xFFF1, 0xFFFF, 0xFFF00000, 0xFFF10000, 0xFFFF0000, 0xFFF0FFF0, 0xFFF1FFF1, 0xFFFFFFFF, 0x11E60398, 0x80008000}
	for _, b := range samples() {
		for _, s := range starts {
			if got, want := sum.More(s, b), plain(s, b); got != want {
				t.Errorf("More(%08X, %d bytes) = %08X, want %08X", s, len(b), got, want)
			}
		}
	}
}

// P1.1: bytes enough that a remainder put off over all of them would leave any number.
func TestMoreLong(t *testing.T) {
	b := bytes.Repeat([]byte{255}, 1<<22)
	for _, s := range []uint32{0, 1, 0xFFF0FFF0, 0xFFFFFFFF} {
		if got, want := sum.More(s, b), plain(s, b); got != want {
			t.Errorf("More(%08X, 2^22 of 255) = %08X, want %08X", s, got, want)
		}
	}
}

// P1.2: what is sealed is b, and its sum's bytes, the highest first.
func TestSeal(t *testing.T) {
	if got, want := sum.Seal([]byte("Wikipedia")), []byte("Wikipedia\x11\xE6\x03\x98"); !bytes.Equal(got, want) {
		t.Errorf("Seal(Wikipedia) = % X, want % X", got, want)
	}
	for _, b := range samples() {
		s := plain(1, b)
		want := append(bytes.Clone(b), byte(s>>24), byte(s>>16), byte(s>>8), byte(s))
		if got := sum.Seal(b); !bytes.Equal(got, want) {
			t.Errorf("Seal of %d bytes is not b and its sum", len(b))
		}
	}
}

// P1.2: nil and empty bytes are sealed alike, and opened as none.
func TestSealNone(t *testing.T) {
	for _, b := range [][]byte{nil, {}} {
		if got := sum.Seal(b); !bytes.Equal(got, []byte{0, 0, 0, 1}) {
			t.Errorf("Seal of none = % X", got)
		}
	}
	opened(t, []byte{0, 0, 0, 1}, nil)
}

// P1.5: what was sealed is opened, and what was sealed twice, twice.
func TestOpenSealed(t *testing.T) {
	for _, b := range samples() {
		opened(t, sum.Seal(b), b)
		opened(t, sum.Seal(sum.Seal(b)), sum.Seal(b))
	}
}

// P1.2: sealed bytes are told here byte by byte, so that Open does not lean on Seal.
func TestOpenKnown(t *testing.T) {
	opened(t, []byte("Wikipedia\x11\xE6\x03\x98"), []byte("Wikipedia"))
	opened(t, []byte{'a', 0x00, 0x62, 0x00, 0x62}, []byte("a"))
	opened(t, []byte{0, 0, 1, 0, 1}, []byte{0})
	refused(t, []byte("Wikipedia\x98\x03\xE6\x11"))
	refused(t, []byte("Wikipedia\x03\x98\x11\xE6"))
	refused(t, []byte("\x11\xE6\x03\x98Wikipedia"))
	refused(t, []byte("Wikipedia"))
}

// P1.2: fewer than four bytes are no sealed ones, not even the end of a sum.
func TestOpenShort(t *testing.T) {
	for _, b := range [][]byte{nil, {}, {0}, {1}, {0, 0}, {0, 1}, {0, 0, 0}, {0, 0, 1}, {255, 255, 255}} {
		refused(t, b)
	}
	refused(t, []byte{0, 0, 0, 0})
	refused(t, []byte{1, 0, 0, 0})
	refused(t, []byte{0, 1, 0, 0})
}

// P1.2: the four bytes are the sum itself, not one that is the same modulo 65521, nor half of it.
func TestOpenHalves(t *testing.T) {
	refused(t, []byte{0x00, 0x00, 0xFF, 0xF2})
	refused(t, []byte{0xFF, 0xF1, 0x00, 0x01})
	refused(t, []byte{0xFF, 0xF1, 0xFF, 0xF2})
	refused(t, []byte("Wikipedia\x11\xE6\x00\x00"))
	refused(t, []byte("Wikipedia\x00\x00\x03\x98"))
}

// P1.4: with one byte turned nothing is opened, whichever and to whatever.
func TestOpenTurned(t *testing.T) {
	for _, b := range short() {
		sealed := sum.Seal(b)
		for i := range sealed {
			for by := 1; by < 256; by++ {
				sealed[i] ^= byte(by)
				refused(t, sealed)
				sealed[i] ^= byte(by)
			}
		}
		opened(t, sealed, b)
	}
}

// P1.4: with two unlike neighbours exchanged nothing is opened, the last byte and the sum's first one among them.
func TestOpenExchanged(t *testing.T) {
	list := append(short(), []byte{0, 255}, []byte{255, 0}, []byte{1, 2}, noise(99, 2000))
	for _, b := range list {
		sealed := sum.Seal(b)
		for i := 1; i < len(sealed); i++ {
			if sealed[i-1] == sealed[i] {
				continue
			}
			sealed[i-1], sealed[i] = sealed[i], sealed[i-1]
			refused(t, sealed)
			sealed[i-1], sealed[i] = sealed[i], sealed[i-1]
		}
		opened(t, sealed, b)
	}
}

// P1.4: of longer bytes, too, in each of their stretches.
func TestOpenTurnedLong(t *testing.T) {
	b := noise(5, 12000)
	sealed := sum.Seal(b)
	for i := 0; i < len(sealed); i += 97 {
		for _, by := range []byte{1, 0x80, 0xFF} {
			sealed[i] ^= by
			if got, err := sum.Open(sealed); err != api.ErrSum || len(got) != 0 {
				t.Fatalf("byte %d turned by %d: %d bytes, %v", i, by, len(got), err)
			}
			sealed[i] ^= by
		}
	}
	opened(t, sealed, b)
}

// roomy is b with room behind it, and all of that memory.
func roomy(b []byte) (head, whole []byte) {
	whole = append(bytes.Clone(b), bytes.Repeat([]byte{0xA5}, 16)...)
	return whole[:len(b)], whole
}

// R4: no call writes into what it was handed, or into what lies behind it.
func TestHandedStays(t *testing.T) {
	for _, b := range [][]byte{{}, []byte("a"), []byte("Wikipedia"), sum.Seal([]byte("Wikipedia")), {1, 2, 3}, noise(3, 6000)} {
		head, whole := roomy(b)
		other, rest := roomy([]byte("other"))
		before, behind := bytes.Clone(whole), bytes.Clone(rest)
		parts := [][]byte{head, other, nil, head}
		sum.Of(parts...)
		sum.More(0xFFFFFFFF, head)
		sum.Seal(head)
		sum.Open(head)
		if !bytes.Equal(whole, before) || !bytes.Equal(rest, behind) {
			t.Errorf("a call wrote into its %d bytes, or behind them", len(b))
		}
		if len(parts) != 4 || len(parts[0]) != len(b) || len(parts[1]) != 5 || len(parts[2]) != 0 || len(parts[3]) != len(b) {
			t.Errorf("Of wrote into the list of its parts")
		}
	}
}

// R4: what was sealed is the caller's, and shares nothing with what it was made of.
func TestSealedIsNew(t *testing.T) {
	b, _ := roomy([]byte("Wikipedia"))
	one, two := sum.Seal(b), sum.Seal([]byte("Wikipedia"))
	want := bytes.Clone(two)
	clear(b)
	if !bytes.Equal(one, want) {
		t.Error("what was sealed turned with what it was made of")
	}
	clear(one[:cap(one)])
	if !bytes.Equal(two, want) || !bytes.Equal(sum.Seal([]byte("Wikipedia")), want) {
		t.Error("what was sealed is shared by two calls")
	}
}

// R4: so is what was opened.
func TestOpenedIsNew(t *testing.T) {
	sealed := sum.Seal([]byte("Wikipedia"))
	before := bytes.Clone(sealed)
	one, _ := sum.Open(sealed)
	two, _ := sum.Open(sealed)
	clear(one[:cap(one)])
	if !bytes.Equal(sealed, before) || string(two) != "Wikipedia" {
		t.Error("what was opened shares memory with what was sealed, or with another answer")
	}
	clear(sealed)
	if string(two) != "Wikipedia" {
		t.Error("what was opened turned with what was sealed")
	}
	none, _ := sum.Open([]byte{0, 0, 0, 1})
	if cap(none) > 0 {
		clear(none[:cap(none)])
	}
	opened(t, []byte{0, 0, 0, 1}, nil)
}

// R3, R7: no call leaves a trace in later ones, errors among them.
func TestNothingStays(t *testing.T) {
	sealed := sum.Seal([]byte("Wikipedia"))
	for range 3 {
		refused(t, []byte("Wikipedia"))
		refused(t, nil)
		if got := sum.Of([]byte("Wiki"), []byte("pedia")); got != 0x11E60398 {
			t.Fatalf("Of = %08X", got)
		}
		if got := sum.More(0xFFFFFFFF, []byte{1}); got != 0x001D000F {
			t.Fatalf("More = %08X", got)
		}
		if !bytes.Equal(sum.Seal([]byte("Wikipedia")), sealed) {
			t.Fatal("Seal")
		}
		opened(t, sealed, []byte("Wikipedia"))
	}
}

// R1: no bytes let a call panic, and none that nobody sealed are opened but where the sum fits.
func TestAnyBytes(t *testing.T) {
	r := rand.New(rand.NewSource(1))
	for range 5000 {
		b := make([]byte, r.Intn(40))
		r.Read(b)
		s := r.Uint32()
		if got, want := sum.More(s, b), plain(s, b); got != want {
			t.Fatalf("More(%08X, % X) = %08X, want %08X", s, b, got, want)
		}
		opened(t, sum.Seal(b), b)
		if at := len(b) - 4; at < 0 || !bytes.Equal(b, sum.Seal(b[:at])) {
			refused(t, b)
		}
	}
}
