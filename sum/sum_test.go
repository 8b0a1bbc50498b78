package sum_test

import (
	"crypto/sha256"
	"hash/crc32"
	"slices"
	"strings"
	"testing"

	"pouch/api"
	"pouch/samples"
	"pouch/sum"
)

var allBytes = samples.AllBytes()

// P3.1: checksums known from elsewhere.
func TestCrcOfKnownStrings(t *testing.T) {
	for _, c := range []struct {
		s    string
		want uint32
	}{
		{"", 0},
		{"a", 0xc1d04330},
		{"123456789", 3808858755},
		{"123456789", 0xe3069283},
		{"\x00", 0x527d5351},
		{"\xff", 0xff000000},
		{"\x00\x00\x00\x00", 0x48674bc7},
		{"\xff\xff\xff\xff", 0xffffffff},
		{"\xe9\x80", 0x867ec89a},
		{"caf\u00e9", 0x9d248f38},
		{strings.Repeat("\x00", 32), 0x8a9136aa},
		{strings.Repeat("\xff", 32), 0x62a8ab43},
		{allBytes[:32], 0x46dd794e},
		{reversed(allBytes[:32]), 0x113fdb5c},
		{allBytes, 0x9c44184b},
		{strings.Repeat(allBytes, 40), 0xbd846cd7},
	} {
		if got := sum.Crc(c.s); got != c.want {
			t.Errorf("Crc(%q) = %#x, want %#x", c.s, got, c.want)
		}
	}
}

func reversed(s string) string {
	bytes := []byte(s)
	slices.Reverse(bytes)
	return string(bytes)
}

// P3.1, P1: the checksum is the Castagnoli one for strings of all kinds.
func TestCrcOfAnyStrings(t *testing.T) {
	table := crc32.MakeTable(crc32.Castagnoli)
	for _, s := range anyStrings() {
		if got, want := sum.Crc(s), crc32.Checksum([]byte(s), table); got != want {
			t.Errorf("Crc of %d bytes %.20q = %#x, want %#x", len(s), s, got, want)
		}
	}
}

// P3.2: digests known from elsewhere, at the lengths at which the padding changes the number of blocks among others.
func TestShaOfKnownStrings(t *testing.T) {
	for _, c := range []struct{ s, want string }{
		{"", "e3b0c44298fc1c149afbf4c8996fb92427ae41e4649b934ca495991b7852b855"},
		{"abc", "ba7816bf8f01cfea414140de5dae2223b00361a396177a9cb410ff61f20015ad"},
		{"abcdbcdecdefdefgefghfghighijhijkijkljklmklmnlmnomnopnopq", "248d6a61d20638b8e5c026930c3e6039a33ce45964ff2167f6ecedd419db06c1"},
		{"abcdefghbcdefghicdefghijdefghijkefghijklfghijklmghijklmnhijklmnoijklmnopjklmnopqklmnopqrlmnopqrsmnopqrstnopqrstu", "cf5b16a778af8380036ce59e7b0492370b249b11e8f07a51afac45037afee9d1"},
		{"\x00", "6e340b9cffb37a989ca544e6bb780a2c78901d3fb33738768511a30617afa01d"},
		{"\xff", "a8100ae6aa1940d0b663bb31cd466142ebbdbd5187131b92d93818987832eb89"},
		{"\xbd", "68325720aabd7c82f30f554b313d0570c95accbb7dc4b5aae11204c08ffe732b"},
		{strings.Repeat("a", 55), "9f4390f8d30c2dd92ec9f095b65e2b9ae9b0a925a5258e241c9f1e910f734318"},
		{strings.Repeat("a", 56), "b35439a4ac6f0948b6d6f9e3c6af0f5f590ce20f1bde7090ef7970686ec6738a"},
		{strings.Repeat("a", 63), "7d3e74a05d7db15bce4ad9ec0658ea98e3f06eeecf16b4c6fff2da457ddc2f34"},
		{strings.Repeat("a", 64), "ffe054fe7ae0cb6dc65c3af9b61d5209f439851db43d0ba5997337df154668eb"},
		{strings.Repeat("a", 65), "635361c48bb9eab14198e76ea8ab7f1a41685d6ad62aa9146d301d4f17eb0ae0"},
		{strings.Repeat("a", 119), "31eba51c313a5c08226adf18d4a359cfdfd8d2e816b13f4af952f7ea6584dcfb"},
		{strings.Repeat("a", 120), "2f3d335432c70b580af0e8e1b3674a7c020d683aa5f73aaaedfdc55af904c21c"},
		{strings.Repeat("a", 128), "6836cf13bac400e9105071cd6af47084dfacad4e5e302c94bfed24e013afb73e"},
		{allBytes, "40aff2e9d2d8922e47afd4648e6967497158785fbd1da870e7110266bf944880"},
		{strings.Repeat(allBytes, 40), "e96760a87768717bcebcfd25ddc7d46b4dbc95a4b0014def080c08539f7d90d0"},
		{strings.Repeat("a", 1000000), "cdc76e5c9914fb9281a1c7e284d73e67f1809a48a497200e046d39ccc7112cd0"},
	} {
		if got := sum.Hex(sum.Sha(c.s)); got != c.want {
			t.Errorf("Sha of %d bytes %.20q = %s, want %s", len(c.s), c.s, got, c.want)
		}
	}
	if d := sum.Sha(""); d[0] != 0xe3 || d[1] != 0xb0 || d[2] != 0xc4 || d[3] != 0x42 {
		t.Errorf("Sha of the empty string begins with % x", d[:4])
	}
}

// P3.2, P1: the digest is the SHA-256 one for strings of all kinds.
func TestShaOfAnyStrings(t *testing.T) {
	for _, s := range anyStrings() {
		if got, want := sum.Sha(s), api.Digest(sha256.Sum256([]byte(s))); got != want {
			t.Errorf("Sha of %d bytes %.20q = %x, want %x", len(s), s, got, want)
		}
	}
}

// anyStrings lists short strings, every length up to some blocks, and lengths around multiples of a block up to some thousand bytes.
func anyStrings() []string {
	all := samples.Words("\x00\x01\x7f\x80\xffa", 4)
	for length := range 300 {
		all = append(all, samples.Noise(length, 3), strings.Repeat("\x00", length), strings.Repeat("\xff", length))
	}
	for _, length := range []int{1000, 4096, 5000, api.MaxMessage} {
		for _, more := range []int{-9, -8, -1, 0, 1, 55, 56} {
			all = append(all, samples.Noise(length+more, 4))
		}
	}
	for b := range 256 {
		all = append(all, allBytes[b:b+1], strings.Repeat(allBytes[b:b+1], 64))
	}
	return all
}

// P3.2: Hex gives two lower-case digits for each byte, the high one first.
func TestHex(t *testing.T) {
	for _, c := range []struct {
		d    api.Digest
		want string
	}{
		{api.Digest{}, strings.Repeat("0", 64)},
		{api.Digest{0x12}, "12" + strings.Repeat("0", 62)},
		{api.Digest{31: 0xa0}, strings.Repeat("0", 62) + "a0"},
		{api.Digest{0: 0xfe, 15: 0x0b, 16: 0x9c, 31: 0x01}, "fe" + strings.Repeat("0", 28) + "0b9c" + strings.Repeat("0", 28) + "01"},
		{api.Digest([]byte(allBytes[:32])), "000102030405060708090a0b0c0d0e0f101112131415161718191a1b1c1d1e1f"},
		{api.Digest([]byte(allBytes[224:])), "e0e1e2e3e4e5e6e7e8e9eaebecedeeeff0f1f2f3f4f5f6f7f8f9fafbfcfdfeff"},
		{api.Digest([]byte(strings.Repeat("\xff", 32))), strings.Repeat("f", 64)},
	} {
		if got := sum.Hex(c.d); got != c.want {
			t.Errorf("Hex(%x) = %q, want %q", c.d, got, c.want)
		}
		if got, ok := sum.Read(c.want); got != c.d || !ok {
			t.Errorf("Read(%q) = %x, %v, want %x, true", c.want, got, ok, c.d)
		}
	}
}

// P3.2, R3: Read gives the zero digest and false for a string of another length, also of digits alone.
func TestReadRejectsOtherLengths(t *testing.T) {
	for length := range 200 {
		if length == 64 {
			continue
		}
		checkNotRead(t, strings.Repeat("a", length))
		checkNotRead(t, strings.Repeat("7", length))
	}
	digits := sum.Hex(sum.Sha("abc"))
	for _, s := range []string{"", digits[:62], digits[:63], digits[1:], digits + "0", "0" + digits, digits + "00", digits + digits, digits + "\n", " " + digits, "0x" + digits[2:], "0x" + digits} {
		checkNotRead(t, s)
	}
	checkNotRead(t, strings.Repeat(digits, 1000))
}

// P3.2, R3: the same of upper-case digits, all of them or one alone, wherever it is.
func TestReadRejectsUpperCase(t *testing.T) {
	checkNotRead(t, strings.Repeat("A", 64))
	checkNotRead(t, strings.ToUpper(sum.Hex(sum.Sha("abc"))))
	digits := strings.Repeat("abcdef12", 8)
	for at := range digits {
		if upper := strings.ToUpper(digits[at : at+1]); upper != digits[at:at+1] {
			checkNotRead(t, digits[:at]+upper+digits[at+1:])
		}
	}
}

// P3.2: in each place exactly the 16 lower-case digits are accepted.
func TestReadOfEveryByte(t *testing.T) {
	digits := sum.Hex(sum.Sha("abc"))
	for at := range digits {
		for b := range 256 {
			s := digits[:at] + allBytes[b:b+1] + digits[at+1:]
			value := strings.IndexByte("0123456789abcdef", byte(b))
			if value < 0 {
				checkNotRead(t, s)
				continue
			}
			want := sum.Sha("abc")
			if at%2 == 0 {
				want[at/2] = want[at/2]&0x0f | byte(value<<4)
			} else {
				want[at/2] = want[at/2]&0xf0 | byte(value)
			}
			if got, ok := sum.Read(s); got != want || !ok {
				t.Errorf("Read(%q) = %x, %v, want %x, true", s, got, ok, want)
			}
		}
	}
}

func checkNotRead(t *testing.T, s string) {
	t.Helper()
	if got, ok := sum.Read(s); got != (api.Digest{}) || ok {
		t.Errorf("Read(%q) = %x, %v, want the zero digest, false", s, got, ok)
	}
}

// P3.3: Read inverts Hex, for each byte in each place, and what Read accepts is what Hex gives.
func TestReadInvertsHex(t *testing.T) {
	check := func(d api.Digest) {
		hex := sum.Hex(d)
		if got, ok := sum.Read(hex); got != d || !ok {
			t.Errorf("Read(%q) = %x, %v, want %x, true", hex, got, ok, d)
		}
		if len(hex) != 64 || strings.Trim(hex, "0123456789abcdef") != "" {
			t.Errorf("Hex(%x) = %q", d, hex)
		}
	}
	for at := range len(api.Digest{}) {
		for b := range 256 {
			d := sum.Sha("around")
			d[at] = byte(b)
			check(d)
			check(single(at, byte(b)))
		}
	}
}

// single is the digest whose only byte other than zero is b, in place at.
func single(at int, b byte) api.Digest {
	var d api.Digest
	d[at] = b
	return d
}

// P3.2: Less compares byte by byte, the first difference decides, and a byte has no sign.
func TestLess(t *testing.T) {
	mixed := sum.Sha("abc")
	firstUp, lastUp := mixed, mixed
	firstUp[0]++
	lastUp[31]++
	for _, c := range []struct {
		a, b api.Digest
		want bool
	}{
		{api.Digest{}, api.Digest{}, false},
		{mixed, mixed, false},
		{api.Digest{}, api.Digest{1}, true},
		{api.Digest{1}, api.Digest{2}, true},
		{api.Digest{0x7f}, api.Digest{0x80}, true},
		{api.Digest{}, api.Digest{0xff}, true},
		{api.Digest{}, api.Digest{31: 1}, true},
		{api.Digest{31: 0x7f}, api.Digest{31: 0x80}, true},
		{api.Digest{31: 1}, api.Digest{30: 1}, true},
		{api.Digest{1: 0xff}, api.Digest{0: 1}, true},
		{api.Digest{0: 1}, api.Digest{0: 1, 1: 1}, true},
		{api.Digest{0: 1, 31: 0xff}, api.Digest{0: 2}, true},
		{api.Digest{7: 1, 8: 0xff}, api.Digest{7: 2}, true},
		{api.Digest{15: 1, 16: 0xff}, api.Digest{15: 2}, true},
		{mixed, firstUp, true},
		{mixed, lastUp, true},
		{lastUp, firstUp, true},
	} {
		if got := sum.Less(c.a, c.b); got != c.want {
			t.Errorf("Less(%x, %x) = %v, want %v", c.a, c.b, got, c.want)
		}
		if got := sum.Less(c.b, c.a); got {
			t.Errorf("Less(%x, %x) = true, want false", c.b, c.a)
		}
	}
}

// P3.3: Less is a strict total order.
func TestLessIsAStrictTotalOrder(t *testing.T) {
	digests := []api.Digest{{}}
	for _, b := range []byte{1, 0x7f, 0x80, 0xff} {
		for _, at := range []int{0, 1, 15, 30, 31} {
			digests = append(digests, single(at, b), single(at, ^b))
		}
	}
	for _, s := range samples.Words("ab", 4) {
		digests = append(digests, sum.Sha(s), sum.Sha(s))
	}
	for _, a := range digests {
		for _, b := range digests {
			less, more := sum.Less(a, b), sum.Less(b, a)
			if a == b && (less || more) || a != b && less == more {
				t.Errorf("%x and %x: %v, %v", a, b, less, more)
			}
			if less != (sum.Hex(a) < sum.Hex(b)) {
				t.Errorf("Less(%x, %x) = %v", a, b, less)
			}
			for _, c := range digests {
				if less && sum.Less(b, c) && !sum.Less(a, c) {
					t.Errorf("%x, %x, %x: not transitive", a, b, c)
				}
			}
		}
	}
}

// flipped changes the bits of s that pattern has, from the bit at on; the bits of each byte are counted from its lowest one, as the register takes them.
func flipped(s string, pattern uint64, at int) string {
	changed := []byte(s)
	for bit := range 64 {
		if pattern>>bit&1 == 1 {
			changed[(at+bit)/8] ^= 1 << ((at + bit) % 8)
		}
	}
	return string(changed)
}

// P3.3: a change of one bit, of 32 bits or of some bits among 32, also across bytes, changes the checksum.
func TestCrcSeesBursts(t *testing.T) {
	patterns := []uint64{1, 3, 0x81, 0x101, 0x180, 0x5555, 0x18000, 0xffffff, 0x01800000, 0x55555555, 0x80000001, 0xaaaaaaaa, 0xc0000003, 0xdeadbeef, 0x82f63b78, 0x82f63b79, 0x05ec76f1, 0xffffffff}
	for length := range 9 {
		noise := samples.Noise(64, uint64(length))
		for bit := range 64 {
			patterns = append(patterns, uint64(noise[bit])<<24|uint64(noise[bit/2])<<16|uint64(noise[bit/3])<<8|1)
		}
	}
	for _, s := range []string{strings.Repeat("\x00", 20), strings.Repeat("\xff", 20), samples.Noise(20, 1), "123456789"} {
		crc := sum.Crc(s)
		for _, pattern := range patterns {
			for at := 0; at+32 <= 8*len(s); at++ {
				if sum.Crc(flipped(s, pattern, at)) == crc {
					t.Errorf("%q: the burst %#x from bit %d on is not seen", s, pattern, at)
				}
			}
		}
	}
	long := samples.Noise(5000, 2)
	crc := sum.Crc(long)
	for _, at := range []int{0, 7, 8, 13, 20011, 39967, 39968} {
		for _, pattern := range patterns {
			if sum.Crc(flipped(long, pattern, at)) == crc {
				t.Errorf("5000 bytes: the burst %#x from bit %d on is not seen", pattern, at)
			}
		}
	}
}

// P3.3: no choice of bits among 32 consecutive ones leaves the checksum as it is. What a change of bits does to it is the exclusive or of what each bit does, so it is enough that no sum of these is zero.
func TestCrcSeesEveryBurst(t *testing.T) {
	for _, s := range []string{samples.Noise(4, 1), samples.Noise(40, 2), strings.Repeat("\xff", 33)} {
		crc := sum.Crc(s)
		for at := 0; at+32 <= 8*len(s); at++ {
			var effects []uint32
			for bit := range 32 {
				effect := sum.Crc(flipped(s, 1<<bit, at)) ^ crc
				for _, other := range effects {
					effect = min(effect, effect^other)
				}
				if effect == 0 {
					t.Fatalf("%q: a burst of %d bits from bit %d on is not seen", s, bit+1, at)
				}
				effects = append(effects, effect)
			}
		}
	}
}

// P3.3: strings with equal checksums keep equal ones, whatever is appended to both; a burst stays seen.
func TestCrcOfAppendedBytes(t *testing.T) {
	// The 33 bits of the whole polynomial: the shortest change that no checksum sees.
	const unseen = 0x82f63b78<<1 | 1
	pairs := [][2]string{
		{"\xff\xff\xff\xff", "\xff\xff\xff\xff\x00"},
		{"\xff\xff\xff\xff", "\xff\xff\xff\xff" + strings.Repeat("\x00", 61)},
	}
	for _, s := range []string{"\x00\x00\x00\x00\x00", "123456789", samples.Noise(20, 1), samples.Noise(3000, 2)} {
		for _, at := range []int{0, 1, 7, 8*len(s) - 33} {
			if at+33 <= 8*len(s) {
				pairs = append(pairs, [2]string{s, flipped(s, unseen, at)})
			}
		}
	}
	tails := append(samples.Words("\x00\x01\xffa", 3), "123456789", strings.Repeat("\x00", 100), samples.Noise(5000, 3))
	for _, p := range pairs {
		if p[0] == p[1] || sum.Crc(p[0]) != sum.Crc(p[1]) {
			t.Errorf("%.20q and %.20q: no pair with equal checksums", p[0], p[1])
		}
		for _, tail := range tails {
			if sum.Crc(p[0]+tail) != sum.Crc(p[1]+tail) {
				t.Errorf("%.20q and %.20q: different checksums after %.20q", p[0], p[1], tail)
			}
			if sum.Crc(p[0]+"x"+tail) == sum.Crc(p[0]+"y"+tail) {
				t.Errorf("%.20q: equal checksums after x and y and %.20q", p[0], tail)
			}
		}
	}
}

// R2: no call changes what it is given, and an answer stays as it was when another one is changed.
func TestArgumentsAreLeftAlone(t *testing.T) {
	bytes := []byte(samples.Noise(1000, 1))
	s := string(bytes)
	crc, d := sum.Crc(s), sum.Sha(s)
	if s != string(bytes) {
		t.Error("the string changed")
	}
	before, other := d, api.Digest{1}
	hex := sum.Hex(d)
	sum.Less(d, other)
	sum.Less(other, d)
	read, ok := sum.Read(hex)
	if d != before || other != (api.Digest{1}) || read != before || !ok {
		t.Error("a digest changed")
	}
	d[0]++
	read[31]++
	if sum.Crc(s) != crc || sum.Sha(s) != before || sum.Hex(before) != hex {
		t.Error("the answers changed")
	}
	if again, _ := sum.Read(hex); again != before {
		t.Error("the answer of Read changed")
	}
}
