package sha_test

import (
	"crypto/hmac"
	"crypto/sha256"
	"encoding/binary"
	"encoding/hex"
	"math/rand"
	"strings"
	"testing"

	"vizard/sha"
)

// edgeSizes are sizes around the end of a block, and around the last at which the count of bits still goes into it.
var edgeSizes = []int{0, 1, 2, 3, 4, 5, 31, 32, 54, 55, 56, 57, 62, 63, 64, 65, 118, 119, 120, 121, 127, 128, 129, 183, 184, 191, 192, 193, 255, 256, 257, 4095, 4096, 5000, 1 << 16, 1<<16 + 1}

// keySizes are sizes around that from which on a key goes in as its digest.
var keySizes = []int{0, 1, 2, 31, 32, 33, 55, 56, 63, 64, 65, 66, 127, 128, 129, 300, 777}

// written is the bytes of a digest as the document writes them.
func written(t *testing.T, s string) string {
	t.Helper()
	b, err := hex.DecodeString(strings.ReplaceAll(s, " ", ""))
	if err != nil {
		t.Fatal(err)
	}
	return string(b)
}

// someText is so many bytes of all values, in a row that no block repeats.
func someText(size int) string {
	b := make([]byte, size)
	for i := range b {
		b[i] = byte(i*7 + i/256 + 3)
	}
	return string(b)
}

// randomText is so many bytes that hang on the seed alone.
func randomText(r *rand.Rand, size int) string {
	b := make([]byte, size)
	r.Read(b)
	return string(b)
}

func wantSum(s string) string {
	d := sha256.Sum256([]byte(s))
	return string(d[:])
}

func wantHmac(key, s string) string {
	m := hmac.New(sha256.New, []byte(key))
	m.Write([]byte(s))
	return string(m.Sum(nil))
}

// counted is a text of less than 2^14 bytes with its count in front.
func counted(s string) string {
	if len(s) < 64 {
		return string([]byte{byte(len(s))}) + s
	}
	return string(binary.BigEndian.AppendUint16(nil, uint16(len(s))|0x4000)) + s
}

func wantDerive(key, label, context string) string {
	return wantHmac(key, counted(label)+counted(context))
}

func checkSum(t *testing.T, s string) {
	t.Helper()
	if got, want := sha.Sum(s), wantSum(s); got != want {
		t.Errorf("Sum of %d bytes: %x, want %x", len(s), got, want)
	}
}

func checkHmac(t *testing.T, key, s string) {
	t.Helper()
	if got, want := sha.Hmac(key, s), wantHmac(key, s); got != want {
		t.Errorf("Hmac of a key of %d bytes and %d bytes: %x, want %x", len(key), len(s), got, want)
	}
}

func checkDerive(t *testing.T, key, label, context string) {
	t.Helper()
	if got, want := sha.Derive(key, label, context), wantDerive(key, label, context); got != want {
		t.Errorf("Derive of a key of %d bytes, %d bytes and %d bytes: %x, want %x", len(key), len(label), len(context), got, want)
	}
}

// checkHash asks what a Hash has in.
func checkHash(t *testing.T, h *sha.Hash, in string) {
	t.Helper()
	if got, want := h.Sum(), wantSum(in); got != want {
		t.Errorf("Sum with %d bytes in: %x, want %x", len(in), got, want)
	}
}

// TestSumExamples is promise 5.1: the chapter's first example, and others that are widely known.
func TestSumExamples(t *testing.T) {
	for _, c := range []struct{ s, want string }{
		{"abc", "BA7816BF 8F01CFEA 414140DE 5DAE2223 B00361A3 96177A9C B410FF61 F20015AD"},
		{"", "E3B0C442 98FC1C14 9AFBF4C8 996FB924 27AE41E4 649B934C A495991B 7852B855"},
		{"abcdbcdecdefdefgefghfghighijhijkijkljklmklmnlmnomnopnopq", "248D6A61 D20638B8 E5C02693 0C3E6039 A33CE459 64FF2167 F6ECEDD4 19DB06C1"},
		{strings.Repeat("a", 1000000), "CDC76E5C 9914FB92 81A1C7E2 84D73E67 F1809A48 A497200E 046D39CC C7112CD0"},
	} {
		if got := sha.Sum(c.s); got != written(t, c.want) {
			t.Errorf("Sum of %d bytes: %x, want %s", len(c.s), got, c.want)
		}
	}
}

// TestSumAtEdges is promise 5.1: texts whose end lies within a block, at its end and behind it.
func TestSumAtEdges(t *testing.T) {
	for _, size := range edgeSizes {
		checkSum(t, someText(size))
		checkSum(t, strings.Repeat("\x00", size))
		checkSum(t, strings.Repeat("\xff", size))
		checkSum(t, strings.Repeat("\x80", size))
	}
}

// TestSumOfEachSize is promise 5.1: all sizes up to some blocks.
func TestSumOfEachSize(t *testing.T) {
	text := someText(600)
	for size := range len(text) {
		checkSum(t, text[:size])
	}
}

// TestSumOfEachByte is promise 5.1: a text of one byte, of each value.
func TestSumOfEachByte(t *testing.T) {
	seen := map[string]int{}
	for value := range 256 {
		s := string([]byte{byte(value)})
		checkSum(t, s)
		checkSum(t, strings.Repeat(s, 70))
		if other, ok := seen[sha.Sum(s)]; ok {
			t.Errorf("bytes %d and %d have one digest", other, value)
		}
		seen[sha.Sum(s)] = value
	}
}

// TestSumCountsBits is promise 5.1: how many bits there are goes into more than two bytes, the highest first.
func TestSumCountsBits(t *testing.T) {
	for _, size := range []int{8191, 8192, 8193, 1<<21 - 1, 1 << 21, 1<<21 + 1, 1<<22 + 77} {
		checkSum(t, someText(size))
	}
}

// TestSumSeesTheEnd is promise 5.1: bytes 0 at the end, and what looks like an ending, are told apart.
func TestSumSeesTheEnd(t *testing.T) {
	seen := map[string]string{}
	for _, s := range []string{"", "\x00", "\x00\x00", "\x80", "\x80\x00", "a", "a\x00", "a\x80", "a\x80\x00", "a\x80" + strings.Repeat("\x00", 61) + "\x08"} {
		checkSum(t, s)
		if other, ok := seen[sha.Sum(s)]; ok {
			t.Errorf("%x and %x have one digest", other, s)
		}
		seen[sha.Sum(s)] = s
	}
}

// TestSumOfRandomTexts is promise 5.1 at texts of all kinds.
func TestSumOfRandomTexts(t *testing.T) {
	r := rand.New(rand.NewSource(5))
	for range 500 {
		checkSum(t, randomText(r, r.Intn(1000)))
	}
}

// TestHmacExamples is promise 5.1: the chapter's second example, and others that are widely known.
func TestHmacExamples(t *testing.T) {
	for _, c := range []struct{ key, s, want string }{
		{"Jefe", "what do ya want for nothing?", "5BDCC146 BF60754E 6A042426 089575C7 5A003F08 9D273983 9DEC58B9 64EC3843"},
		{strings.Repeat("\x0b", 20), "Hi There", "B0344C61 D8DB3853 5CA8AFCE AF0BF12B 881DC200 C9833DA7 26E9376C 2E32CFF7"},
		{strings.Repeat("\xaa", 20), strings.Repeat("\xdd", 50), "773EA91E 36800E46 854DB8EB D09181A7 2959098B 3EF8C122 D9635514 CED565FE"},
		{strings.Repeat("\xaa", 131), "Test Using Larger Than Block-Size Key - Hash Key First", "60E43159 1EE0B67F 0D8A26AA CBF5B77F 8E0BC621 3728C514 0546040F 0EE37F54"},
		{"", "", "B613679A 0814D9EC 772F95D7 78C35FC5 FF1697C4 93715653 C6C71214 4292C5AD"},
	} {
		if got := sha.Hmac(c.key, c.s); got != written(t, c.want) {
			t.Errorf("Hmac of a key of %d bytes and %d bytes: %x, want %s", len(c.key), len(c.s), got, c.want)
		}
	}
}

// TestHmacAtEdges is promise 5.1: keys below a block, of one and above it, with texts around the end of a block.
func TestHmacAtEdges(t *testing.T) {
	for _, keySize := range keySizes {
		for _, size := range []int{0, 1, 23, 24, 55, 56, 63, 64, 65, 119, 128, 3000} {
			checkHmac(t, someText(keySize), someText(size))
			checkHmac(t, strings.Repeat("\x00", keySize), someText(size))
			checkHmac(t, strings.Repeat("\xff", keySize), someText(size))
			checkHmac(t, strings.Repeat("\x36", keySize), someText(size))
			checkHmac(t, strings.Repeat("\x5c", keySize), someText(size))
		}
	}
}

// TestHmacOfKeysThatEndInNought is promise 5.1: bytes 0 fill a key up to a block, so one that has them already is the same.
func TestHmacOfKeysThatEndInNought(t *testing.T) {
	for _, front := range []string{"", "k", "Jefe", someText(32), someText(62)} {
		want := sha.Hmac(front, "text")
		for size := len(front); size <= 64; size++ {
			key := front + strings.Repeat("\x00", size-len(front))
			checkHmac(t, key, "text")
			if got := sha.Hmac(key, "text"); got != want {
				t.Errorf("%x with bytes 0 up to %d: %x, want %x", front, size, got, want)
			}
		}
		beyond := front + strings.Repeat("\x00", 65-len(front))
		checkHmac(t, beyond, "text")
		if sha.Hmac(beyond, "text") == want {
			t.Errorf("%x with bytes 0 up to 65 is as if it had none", front)
		}
	}
	if sha.Hmac("\x00k", "text") == sha.Hmac("k", "text") {
		t.Error("a byte 0 in front of a key is lost")
	}
}

// TestHmacOfLongKeys is promise 5.1: from 65 bytes on a key is its digest, up to 64 it is itself.
func TestHmacOfLongKeys(t *testing.T) {
	for _, size := range keySizes {
		key := someText(size)
		same := sha.Hmac(key, "text") == sha.Hmac(sha.Sum(key), "text")
		if same != (size > 64) {
			t.Errorf("a key of %d bytes counts as its digest: %v", size, same)
		}
	}
}

// TestHmacKeepsKeyAndTextApart is promise 5.1: a byte that moves from the key to the text changes the code.
func TestHmacKeepsKeyAndTextApart(t *testing.T) {
	whole := someText(70)
	seen := map[string]int{}
	for cut := range len(whole) + 1 {
		code := sha.Hmac(whole[:cut], whole[cut:])
		if other, ok := seen[code]; ok {
			t.Errorf("keys of %d and of %d bytes have one code", other, cut)
		}
		seen[code] = cut
	}
	if sha.Hmac("a", "b") == sha.Hmac("b", "a") {
		t.Error("key and text are the same turned round")
	}
}

// TestHmacOfRandomTexts is promise 5.1 at keys and texts of all kinds.
func TestHmacOfRandomTexts(t *testing.T) {
	r := rand.New(rand.NewSource(6))
	for range 500 {
		checkHmac(t, randomText(r, r.Intn(200)), randomText(r, r.Intn(400)))
	}
}

// TestDerive is promise 5.1: label and context, each with its count in front, whose size steps at 64 bytes.
func TestDerive(t *testing.T) {
	if got, want := sha.Derive("key", "ab", "c"), wantHmac("key", "\x02ab\x01c"); got != want {
		t.Errorf("Derive(key, ab, c): %x, want %x", got, want)
	}
	if got, want := sha.Derive("", "", ""), wantHmac("", "\x00\x00"); got != want {
		t.Errorf("Derive of nothing: %x, want %x", got, want)
	}
	sizes := []int{0, 1, 2, 62, 63, 64, 65, 128, 255, 256, 5000}
	for _, keySize := range keySizes {
		for _, labelSize := range sizes {
			for _, contextSize := range sizes {
				checkDerive(t, someText(keySize), someText(labelSize), strings.Repeat("\xfe", contextSize))
			}
		}
	}
}

// TestDeriveOfLongTexts is promise 5.1: counts of four bytes.
func TestDeriveOfLongTexts(t *testing.T) {
	long := someText(1 << 14)
	if got, want := sha.Derive("key", long, "c"), wantHmac("key", "\x80\x00\x40\x00"+long+"\x01c"); got != want {
		t.Errorf("a label of 2^14 bytes: %x, want %x", got, want)
	}
	if got, want := sha.Derive("key", "c", long), wantHmac("key", "\x01c\x80\x00\x40\x00"+long); got != want {
		t.Errorf("a context of 2^14 bytes: %x, want %x", got, want)
	}
}

// TestDeriveKeepsPairsApart is promise 5.1: pairs whose bytes, one behind the other, are the same make other keys.
func TestDeriveKeepsPairsApart(t *testing.T) {
	for _, whole := range []string{"ab", "abc", "\x00\x00\x00", "\x01\x01\x01\x01", someText(130)} {
		seen := map[string]int{}
		for cut := range len(whole) + 1 {
			checkDerive(t, "key", whole[:cut], whole[cut:])
			made := sha.Derive("key", whole[:cut], whole[cut:])
			if other, ok := seen[made]; ok {
				t.Errorf("labels of %d and of %d bytes make one key", other, cut)
			}
			seen[made] = cut
		}
	}
	for _, pair := range [][2]string{{"a", ""}, {"", "a"}, {"a", "b"}, {"b", "a"}} {
		if sha.Derive("key", pair[0], pair[1]) == sha.Hmac("key", pair[0]+pair[1]) {
			t.Errorf("%x and %x go in without their counts", pair[0], pair[1])
		}
	}
}

// TestNewHasNothingIn is promise 5.2: a New into which nothing was put.
func TestNewHasNothingIn(t *testing.T) {
	checkHash(t, sha.New(), "")
	h := sha.New()
	h.Write("")
	h.Write("")
	checkHash(t, h, "")
}

// TestWriteOfNothing is promise 5.2: it changes nothing, wherever it comes.
func TestWriteOfNothing(t *testing.T) {
	for _, size := range edgeSizes {
		text := someText(size)
		h := sha.New()
		h.Write("")
		h.Write(text)
		h.Write("")
		checkHash(t, h, text)
		h.Write("x")
		h.Write("")
		checkHash(t, h, text+"x")
	}
}

// TestWriteOfOneByteAtATime is promise 5.2: the digest at each byte.
func TestWriteOfOneByteAtATime(t *testing.T) {
	text := someText(300)
	asked, silent := sha.New(), sha.New()
	for i := range len(text) {
		asked.Write(text[i : i+1])
		silent.Write(text[i : i+1])
		checkHash(t, asked, text[:i+1])
	}
	checkHash(t, silent, text)
}

// TestWriteOfPieces is promise 5.2: pieces that end within a block, at its end and behind it.
func TestWriteOfPieces(t *testing.T) {
	sizes := []int{0, 1, 7, 55, 56, 57, 63, 64, 65, 119, 120, 127, 128, 129, 200}
	text := someText(600)
	for _, first := range sizes {
		for _, second := range sizes {
			for _, third := range sizes {
				h := sha.New()
				h.Write(text[:first])
				h.Write(text[first : first+second])
				h.Write(text[first+second : first+second+third])
				checkHash(t, h, text[:first+second+third])
			}
		}
	}
}

// TestSumGoesOnAsBefore is promise 5.2: Sum asked twice, and asked between two Writes.
func TestSumGoesOnAsBefore(t *testing.T) {
	text := someText(400)
	for _, first := range []int{0, 1, 54, 55, 56, 57, 63, 64, 65, 119, 120, 127, 128, 129} {
		for _, second := range []int{0, 1, 8, 9, 55, 56, 63, 64, 65, 128, 200} {
			h := sha.New()
			h.Write(text[:first])
			before := h.Sum()
			checkHash(t, h, text[:first])
			checkHash(t, h, text[:first])
			h.Write(text[first : first+second])
			checkHash(t, h, text[:first+second])
			checkHash(t, h, text[:first+second])
			if before != wantSum(text[:first]) {
				t.Errorf("a digest that was handed out has changed at %d and %d bytes", first, second)
			}
		}
	}
}

// TestHashesShareNothing is promise 5.2 and R4: values of New that are written to in turn.
func TestHashesShareNothing(t *testing.T) {
	r := rand.New(rand.NewSource(7))
	var hashes [4]*sha.Hash
	var in [4]string
	for i := range hashes {
		hashes[i] = sha.New()
	}
	for range 400 {
		i := r.Intn(len(hashes))
		piece := randomText(r, r.Intn(100))
		hashes[i].Write(piece)
		in[i] += piece
		for j, h := range hashes {
			checkHash(t, h, in[j])
		}
	}
	checkHash(t, sha.New(), "")
	checkSum(t, "abc")
}

// TestCallsBetweenWrites is promise 5.2 and R4: Sum, Hmac and Derive leave a Hash as it is, and it leaves them.
func TestCallsBetweenWrites(t *testing.T) {
	h := sha.New()
	in := ""
	for i := range 100 {
		piece := someText(i)
		h.Write(piece)
		in += piece
		checkSum(t, piece)
		checkHmac(t, in, piece)
		checkDerive(t, piece, "label", piece)
		checkHash(t, h, in)
	}
}

// TestDigestsHave32Bytes is promise 5.1 and 5.2: whatever is handed in.
func TestDigestsHave32Bytes(t *testing.T) {
	for _, size := range edgeSizes {
		text := someText(size)
		h := sha.New()
		h.Write(text)
		for name, got := range map[string]string{"Sum": sha.Sum(text), "Hmac": sha.Hmac(text, text), "Derive": sha.Derive(text, text, text), "Hash": h.Sum()} {
			if len(got) != 32 {
				t.Errorf("%s of %d bytes: %d bytes", name, size, len(got))
			}
		}
	}
}

// FuzzTexts holds promise 5.1 at all texts.
func FuzzTexts(f *testing.F) {
	for _, size := range []int{0, 1, 55, 56, 63, 64, 65, 128} {
		f.Add(someText(size), someText(size/2), someText(size/3))
	}
	f.Fuzz(func(t *testing.T, key, label, context string) {
		checkSum(t, key)
		checkHmac(t, key, label)
		if len(label) < 1<<14 && len(context) < 1<<14 {
			checkDerive(t, key, label, context)
		}
	})
}

// FuzzWrites holds promise 5.2 at all pieces: each byte of cuts says how long the next one is.
func FuzzWrites(f *testing.F) {
	f.Add(someText(300), "\x00\x01\x40\x3f")
	f.Add(someText(128), "\x40\x40")
	f.Add("", "\x00")
	f.Fuzz(func(t *testing.T, text, cuts string) {
		h := sha.New()
		done := 0
		for i := range len(cuts) {
			end := min(done+int(cuts[i]), len(text))
			h.Write(text[done:end])
			done = end
			checkHash(t, h, text[:done])
		}
		h.Write(text[done:])
		checkHash(t, h, text)
	})
}
