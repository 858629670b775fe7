package seal_test

import (
	"crypto/hmac"
	"crypto/sha256"
	"encoding/binary"
	"encoding/hex"
	"math"
	"math/rand"
	"strings"
	"sync"
	"testing"

	"vizard/api"
	"vizard/seal"
)

const tagSize = 16

// edgeSizes are sizes around the ends of pieces of the stream, of blocks of the digest, and of ways to write a count.
var edgeSizes = []int{0, 1, 2, 15, 16, 17, 31, 32, 33, 63, 64, 65, 95, 96, 97, 127, 128, 129, 3000, 5000}

// edgeNumbers are numbers in which each of the eight bytes counts.
var edgeNumbers = []int64{
	0, 1, -1, 2, -2, 7, 8, 255, 256, 1 << 16, 1<<31 - 1, 1 << 31, -1 << 31, 1<<32 - 1, 1 << 32, 1<<32 + 1, 1 << 40, 1 << 48, 1 << 56,
	0x0102030405060708, -0x0102030405060708, api.MaxVarint, api.MaxVarint + 1, math.MaxInt64, math.MinInt64, math.MinInt64 + 1,
}

// someText is so many bytes of all values, in a row that no piece repeats.
func someText(size int) string {
	b := make([]byte, size)
	for i := range b {
		b[i] = byte(i*7 + i/256 + 3)
	}
	return string(b)
}

// randomText is so many bytes that hang on the seed alone.
func randomText(r *rand.Rand, size int) string {
	b := make([]byte, size)
	r.Read(b)
	return string(b)
}

func hmacOf(key, s string) string {
	m := hmac.New(sha256.New, []byte(key))
	m.Write([]byte(s))
	return string(m.Sum(nil))
}

// counted is a text of less than 2^30 bytes with its count in front.
func counted(s string) string {
	switch n := len(s); {
	case n < 1<<6:
		return string([]byte{byte(n)}) + s
	case n < 1<<14:
		return string(binary.BigEndian.AppendUint16(nil, uint16(n)|1<<14)) + s
	default:
		return string(binary.BigEndian.AppendUint32(nil, uint32(n)|1<<31)) + s
	}
}

func eight(number int64) string {
	return string(binary.BigEndian.AppendUint64(nil, uint64(number)))
}

// wantTurned is a text turned by the stream, of which more is made than is needed.
func wantTurned(secret string, number int64, s string) string {
	part := hmacOf(secret, counted("cipher")+counted(""))
	var stream []byte
	for i := 0; len(stream) <= len(s); i++ {
		piece := hmacOf(part, eight(number)+string(binary.BigEndian.AppendUint32(nil, uint32(i))))
		stream = append(stream, piece...)
	}
	out := make([]byte, len(s))
	for i := range out {
		out[i] = s[i] ^ stream[i]
	}
	return string(out)
}

func wantTag(secret string, number int64, head, hidden string) string {
	part := hmacOf(secret, counted("tag")+counted(""))
	return hmacOf(part, eight(number)+counted(head)+hidden)[:tagSize]
}

func wantSeal(secret string, number int64, head, data string) string {
	hidden := wantTurned(secret, number, data)
	return hidden + wantTag(secret, number, head, hidden)
}

// sizesOf tells a case without its bytes.
func sizesOf(secret string, number int64, head, data string) []int64 {
	return []int64{int64(len(secret)), number, int64(len(head)), int64(len(data))}
}

// checkSeal asks for sealed bytes, and for their data.
func checkSeal(t *testing.T, secret string, number int64, head, data string) {
	t.Helper()
	k := seal.New(secret)
	want := wantSeal(secret, number, head, data)
	if got := k.Seal(number, head, data); got != want {
		t.Errorf("Seal of secret, number, head, data %d: %x, want %x", sizesOf(secret, number, head, data), got, want)
	}
	checkOpen(t, k, number, head, want, data, api.OK)
	// A key that has sealed nothing opens as well.
	checkOpen(t, seal.New(secret), number, head, want, data, api.OK)
}

func checkOpen(t *testing.T, k *seal.Key, number int64, head, sealed, data string, want api.Errno) {
	t.Helper()
	got, e := k.Open(number, head, sealed)
	if e != want || got != data {
		t.Errorf("Open of number %d, head of %d bytes, sealed of %d: %x, error %d, want %x, error %d", number, len(head), len(sealed), got, e, data, want)
	}
}

func checkUsed(t *testing.T, k *seal.Key, seals, opens int64) {
	t.Helper()
	if a, b := k.Used(); a != seals || b != opens {
		t.Errorf("Used: %d, %d, want %d, %d", a, b, seals, opens)
	}
}

// turned is a text with one byte turned.
func turned(s string, at int, by byte) string {
	b := []byte(s)
	b[at] ^= by
	return string(b)
}

// TestExample is the chapter's example, promises 6.1 and 6.2.
func TestExample(t *testing.T) {
	k := seal.New("secret")
	s := k.Seal(7, "h", "abc")
	checkOpen(t, k, 7, "h", s, "abc", api.OK)
	checkOpen(t, k, 8, "h", s, "", api.ErrTag)
	checkOpen(t, k, 7, "h", s[:15], "", api.ErrShort)
	checkUsed(t, k, 1, 1)
	if got := k.Seal(7, "h", ""); len(got) != tagSize {
		t.Errorf("Seal of nothing: %d bytes", len(got))
	}
	checkUsed(t, k, 2, 1)
}

// TestSealWritten is promise 6.1: sealed bytes that were worked out elsewhere.
func TestSealWritten(t *testing.T) {
	for _, c := range []struct {
		secret     string
		number     int64
		head, data string
		want       string
	}{
		{"secret", 7, "h", "abc", "c5ecd241728eee3dc3282dc1800282cb08424e"},
		{"", 0, "", "", "e8aeb2c4f21c9f6ca7a9f759aa14ff3e"},
		{"secret", -1, "head", "0123456789abcdef0123456789abcdefX", "378f91ab59cab2e4d6ff29cc84acdc3cfafc34819edc297dea8ca3edb762b8096f290b4b4f520ee8156d95999c5c428270"},
		{strings.Repeat("k", 65), 1 << 32, strings.Repeat("h", 64), strings.Repeat("\x00", 40), "3ae0f47c855c603492492f556efa700ca52bd72cbe615a6657d00a4d3aee2b9624c7ca451149f56dbb6da0fb0208c5d078aab1b1bd5dcbaa"},
	} {
		want, err := hex.DecodeString(c.want)
		if err != nil {
			t.Fatal(err)
		}
		k := seal.New(c.secret)
		if got := k.Seal(c.number, c.head, c.data); got != string(want) {
			t.Errorf("Seal of %x under %d: %x, want %x", c.data, c.number, got, want)
		}
		checkOpen(t, k, c.number, c.head, string(want), c.data, api.OK)
	}
}

// TestSealAtEdgeSizes is promise 6.1: a secret, a head and data of each size beside each other's.
func TestSealAtEdgeSizes(t *testing.T) {
	for _, a := range edgeSizes {
		for _, b := range edgeSizes {
			checkSeal(t, someText(a), 3, someText(b), "data")
			checkSeal(t, someText(a), 3, "head", someText(b))
			checkSeal(t, "secret", 3, someText(a), someText(b))
		}
	}
}

// TestSealAtEdgeNumbers is promise 6.1: each number, also below 0, with data of some pieces.
func TestSealAtEdgeNumbers(t *testing.T) {
	seen := map[string]int64{}
	for _, number := range edgeNumbers {
		for _, size := range []int{0, 1, 31, 32, 33, 64, 65, 100} {
			checkSeal(t, "secret", number, "head", someText(size))
		}
		for _, part := range []string{seal.New("secret").Seal(number, "", "")[:tagSize], seal.New("secret").Seal(number, "", someText(16))[:16]} {
			if other, ok := seen[part]; ok && other != number {
				t.Errorf("numbers %d and %d have one stream, or one tag", other, number)
			}
			seen[part] = number
		}
	}
}

// TestSealOfEachSize is promise 6.1: data that ends within a piece of the stream, at its end and behind it.
func TestSealOfEachSize(t *testing.T) {
	text := someText(200)
	for size := range len(text) + 1 {
		checkSeal(t, "secret", 1, "h", text[:size])
	}
}

// TestSealOfEachByte is promise 6.1: bytes of each value in all three texts.
func TestSealOfEachByte(t *testing.T) {
	for value := range 256 {
		s := string([]byte{byte(value)})
		checkSeal(t, s, int64(value), s, s)
		checkSeal(t, strings.Repeat(s, 32), int64(value), strings.Repeat(s, 33), strings.Repeat(s, 34))
	}
}

// TestSealOfMuchData is promise 6.1: the count of pieces goes into more than two of its bytes.
func TestSealOfMuchData(t *testing.T) {
	for _, size := range []int{32*256 - 1, 32 * 256, 32*256 + 1, 32*65536 + 33} {
		checkSeal(t, "secret", 5, "h", someText(size))
	}
}

// TestSealOfLongHeads is promise 6.1: the count of a head goes into one, two and four bytes.
func TestSealOfLongHeads(t *testing.T) {
	for _, size := range []int{1<<14 - 1, 1 << 14, 1<<14 + 1, 1 << 17} {
		checkSeal(t, "secret", 5, someText(size), "data")
		checkSeal(t, someText(size), 5, "head", "data")
	}
}

// TestSealIsTheHiddenBytesAndTheTag is promise 6.1: data alone is hidden, the head is not in what is sealed.
func TestSealIsTheHiddenBytesAndTheTag(t *testing.T) {
	k := seal.New("secret")
	for _, size := range edgeSizes {
		data := someText(size)
		one, two := k.Seal(9, "one", data), k.Seal(9, "two", data)
		if len(one) != size+tagSize || len(two) != size+tagSize {
			t.Fatalf("Seal of %d bytes: %d and %d bytes", size, len(one), len(two))
		}
		if one[:size] != two[:size] {
			t.Errorf("the hidden bytes of %d hang on the head", size)
		}
		if one[size:] == two[size:] {
			t.Errorf("the tag of %d bytes does not hang on the head", size)
		}
	}
}

// TestSealOfRandomTexts is promise 6.1 at texts and numbers of all kinds.
func TestSealOfRandomTexts(t *testing.T) {
	r := rand.New(rand.NewSource(6))
	for range 500 {
		checkSeal(t, randomText(r, r.Intn(100)), int64(r.Uint64()), randomText(r, r.Intn(200)), randomText(r, r.Intn(300)))
	}
}

// TestOpenOfForeignHiddenBytes is promise 6.1: of hidden bytes that Seal was never asked for, the tag alone says whether they are right.
func TestOpenOfForeignHiddenBytes(t *testing.T) {
	k := seal.New("secret")
	for _, size := range edgeSizes {
		hidden := someText(size)
		sealed := hidden + wantTag("secret", 4, "head", hidden)
		checkOpen(t, k, 4, "head", sealed, wantTurned("secret", 4, hidden), api.OK)
	}
}

// TestOpenOfTooFewBytes is promise 6.1: ErrShort goes ahead of ErrTag, and begins below 16 bytes.
func TestOpenOfTooFewBytes(t *testing.T) {
	k := seal.New("secret")
	nothing := k.Seal(7, "h", "")
	for size := range tagSize {
		checkOpen(t, k, 7, "h", nothing[:size], "", api.ErrShort)
		checkOpen(t, k, 7, "h", nothing[tagSize-size:], "", api.ErrShort)
		checkOpen(t, k, 7, "h", strings.Repeat("\x00", size), "", api.ErrShort)
		checkOpen(t, k, 8, "other", strings.Repeat("\xff", size), "", api.ErrShort)
		checkOpen(t, seal.New(""), -1, "", someText(size), "", api.ErrShort)
	}
	checkOpen(t, k, 7, "h", nothing, "", api.OK)
	checkOpen(t, k, 7, "h", strings.Repeat("\x00", 16), "", api.ErrTag)
	checkOpen(t, k, 7, "h", strings.Repeat("\x00", 17), "", api.ErrTag)
	checkOpen(t, k, 7, "h", nothing+"\x00", "", api.ErrTag)
	checkOpen(t, k, 7, "h", "\x00"+nothing, "", api.ErrTag)
	checkOpen(t, k, 7, "h", k.Seal(7, "h", "x"), "x", api.OK)
}

// TestOpenWithAnotherNumber is promise 6.3.
func TestOpenWithAnotherNumber(t *testing.T) {
	k := seal.New("secret")
	for _, number := range edgeNumbers {
		sealed := k.Seal(number, "head", "data")
		for _, other := range edgeNumbers {
			if other != number {
				checkOpen(t, k, other, "head", sealed, "", api.ErrTag)
			}
		}
		for bit := range 64 {
			checkOpen(t, k, number^int64(uint64(1)<<bit), "head", sealed, "", api.ErrTag)
		}
	}
}

// TestOpenWithAnotherHead is promise 6.3.
func TestOpenWithAnotherHead(t *testing.T) {
	k := seal.New("secret")
	for _, size := range edgeSizes {
		head := someText(size)
		sealed := k.Seal(1, head, "data")
		checkOpen(t, k, 1, head, sealed, "data", api.OK)
		checkOpen(t, k, 1, head+"\x00", sealed, "", api.ErrTag)
		checkOpen(t, k, 1, "\x00"+head, sealed, "", api.ErrTag)
		if size > 0 {
			checkOpen(t, k, 1, "", sealed, "", api.ErrTag)
			checkOpen(t, k, 1, head[1:], sealed, "", api.ErrTag)
			checkOpen(t, k, 1, head[:size-1], sealed, "", api.ErrTag)
			checkOpen(t, k, 1, turned(head, 0, 1), sealed, "", api.ErrTag)
			checkOpen(t, k, 1, turned(head, size-1, 0x80), sealed, "", api.ErrTag)
		}
	}
}

// TestOpenWithAnotherSecret is promise 6.3.
func TestOpenWithAnotherSecret(t *testing.T) {
	for _, size := range edgeSizes {
		// A secret of at least one byte that isn't 0, for the digest fills keys up with bytes 0.
		secret := someText(size) + "x"
		sealed := seal.New(secret).Seal(1, "head", "data")
		for _, other := range []string{"", secret + "y", "y" + secret, secret[:size], turned(secret, 0, 1), turned(secret, size, 0x80)} {
			checkOpen(t, seal.New(other), 1, "head", sealed, "", api.ErrTag)
		}
	}
}

// TestSecretsThatAreOneKey is promise 6.1: what the digest takes as one key are two secrets of one key.
func TestSecretsThatAreOneKey(t *testing.T) {
	sealed := seal.New("secret").Seal(1, "head", "data")
	checkOpen(t, seal.New("secret\x00"), 1, "head", sealed, "data", api.OK)
	long := someText(65)
	digest := sha256.Sum256([]byte(long))
	checkOpen(t, seal.New(string(digest[:])), 1, "head", seal.New(long).Seal(1, "head", "data"), "data", api.OK)
}

// TestOpenOfTurnedBytes is promise 6.3: each bit of each byte counts, of the hidden ones and of the tag.
func TestOpenOfTurnedBytes(t *testing.T) {
	k := seal.New("secret")
	for _, size := range []int{0, 1, 31, 32, 33, 65} {
		sealed := k.Seal(1, "head", someText(size))
		for at := range len(sealed) {
			for bit := range 8 {
				checkOpen(t, k, 1, "head", turned(sealed, at, 1<<bit), "", api.ErrTag)
			}
			checkOpen(t, k, 1, "head", turned(sealed, at, 0xff), "", api.ErrTag)
		}
	}
}

// TestOpenOfBytesCutOffOrPutBehind is promise 6.3.
func TestOpenOfBytesCutOffOrPutBehind(t *testing.T) {
	k := seal.New("secret")
	for _, size := range []int{1, 16, 31, 32, 33, 64, 65} {
		sealed := k.Seal(1, "head", someText(size))
		for cut := 1; cut <= len(sealed); cut++ {
			want := api.ErrTag
			if len(sealed)-cut < tagSize {
				want = api.ErrShort
			}
			checkOpen(t, k, 1, "head", sealed[cut:], "", want)
			checkOpen(t, k, 1, "head", sealed[:len(sealed)-cut], "", want)
			checkOpen(t, k, 1, "head", sealed+someText(cut), "", api.ErrTag)
			checkOpen(t, k, 1, "head", someText(cut)+sealed, "", api.ErrTag)
		}
		checkOpen(t, k, 1, "head", sealed[size:]+sealed[:size], "", api.ErrTag)
		checkOpen(t, k, 1, "head", sealed+sealed, "", api.ErrTag)
	}
}

// TestOpenOfBytesMoved is promise 6.3: the head's count keeps bytes from going over between it and the hidden ones.
func TestOpenOfBytesMoved(t *testing.T) {
	k := seal.New("secret")
	for _, size := range []int{2, 31, 32, 33, 62, 63, 64, 65, 100} {
		head := someText(size)
		sealed := k.Seal(1, head, someText(size))
		for moved := 1; moved <= size; moved++ {
			checkOpen(t, k, 1, head+sealed[:moved], sealed[moved:], "", api.ErrTag)
			checkOpen(t, k, 1, head[:size-moved], head[size-moved:]+sealed, "", api.ErrTag)
		}
	}
	a, b := k.Seal(1, "ab", ""), k.Seal(1, "a", "")
	if a == b {
		t.Error("heads ab and a have one tag")
	}
}

// TestUsed is promise 6.2: every Seal counts, and of Open those that answered OK.
func TestUsed(t *testing.T) {
	k := seal.New("secret")
	checkUsed(t, k, 0, 0)
	sealed := k.Seal(1, "h", "abc")
	checkUsed(t, k, 1, 0)
	checkOpen(t, k, 1, "h", sealed, "abc", api.OK)
	checkUsed(t, k, 1, 1)
	checkOpen(t, k, 1, "h", sealed[:15], "", api.ErrShort)
	checkUsed(t, k, 1, 1)
	checkOpen(t, k, 2, "h", sealed, "", api.ErrTag)
	checkUsed(t, k, 1, 1)
	k.Seal(1, "h", "abc")
	k.Seal(0, "", "")
	checkUsed(t, k, 3, 1)
	checkOpen(t, k, 1, "h", sealed, "abc", api.OK)
	checkOpen(t, k, 1, "h", sealed, "abc", api.OK)
	checkOpen(t, k, 0, "", k.Seal(0, "", ""), "", api.OK)
	checkUsed(t, k, 4, 4)
	checkUsed(t, k, 4, 4)
}

// TestUsedOfErrorsAlone is promise 6.2: a key that was asked in vain was not used.
func TestUsedOfErrorsAlone(t *testing.T) {
	k := seal.New("secret")
	for size := range 40 {
		want := api.ErrTag
		if size < tagSize {
			want = api.ErrShort
		}
		checkOpen(t, k, 1, "h", someText(size), "", want)
		checkUsed(t, k, 0, 0)
	}
}

// TestUsedCountsOn is promise 6.2: over many calls.
func TestUsedCountsOn(t *testing.T) {
	k := seal.New("secret")
	var opens int64
	for i := range int64(300) {
		sealed := k.Seal(i, "h", "abc")
		if i%3 == 0 {
			checkOpen(t, k, i, "h", sealed, "abc", api.OK)
			opens++
		}
		checkUsed(t, k, i+1, opens)
	}
}

// TestFirstCalls is promise 6.1: whichever call needs the parts of a key first, all answer the same.
func TestFirstCalls(t *testing.T) {
	sealed := wantSeal("secret", 7, "h", "abc")
	for name, first := range map[string]func(k *seal.Key){
		"none":     func(k *seal.Key) {},
		"Seal":     func(k *seal.Key) { k.Seal(1, "", "x") },
		"Open":     func(k *seal.Key) { k.Open(7, "h", sealed) },
		"ErrTag":   func(k *seal.Key) { k.Open(8, "h", sealed) },
		"ErrShort": func(k *seal.Key) { k.Open(8, "h", "") },
		"Used":     func(k *seal.Key) { k.Used() },
	} {
		k := seal.New("secret")
		first(k)
		if got := k.Seal(7, "h", "abc"); got != sealed {
			t.Errorf("Seal behind %s: %x, want %x", name, got, sealed)
		}
		checkOpen(t, k, 7, "h", sealed, "abc", api.OK)
	}
}

// TestKeysInTurn is promises 6.1 and 6.2: keys of one secret are equal and count each for itself, those of two don't know one another.
func TestKeysInTurn(t *testing.T) {
	a, b, c := seal.New("secret"), seal.New("secret"), seal.New("other")
	if a == b {
		t.Fatal("two values of New are one")
	}
	for i := range int64(20) {
		x, y, z := a.Seal(i, "h", "abc"), b.Seal(i, "h", "abc"), c.Seal(i, "h", "abc")
		if x != y || x == z {
			t.Errorf("Seal: %x, %x, %x", x, y, z)
		}
		checkOpen(t, a, i, "h", y, "abc", api.OK)
		checkOpen(t, b, i, "h", x, "abc", api.OK)
		checkOpen(t, b, i, "h", x, "abc", api.OK)
		checkOpen(t, c, i, "h", x, "", api.ErrTag)
		checkOpen(t, a, i, "h", z, "", api.ErrTag)
		checkUsed(t, a, i+1, i+1)
		checkUsed(t, b, i+1, 2*i+2)
		checkUsed(t, c, i+1, 0)
	}
}

// TestSealHangsOnNothingElse is promise 6.1: what was sealed and opened before is not in what is sealed next.
func TestSealHangsOnNothingElse(t *testing.T) {
	k := seal.New("secret")
	r := rand.New(rand.NewSource(66))
	for range 200 {
		number, head, data := int64(r.Intn(3)), randomText(r, r.Intn(3)), randomText(r, r.Intn(70))
		want := wantSeal("secret", number, head, data)
		if got := k.Seal(number, head, data); got != want {
			t.Errorf("Seal of %x under %d: %x, want %x", data, number, got, want)
		}
		k.Open(number, head, want[r.Intn(len(want)):])
	}
}

// TestCallsAtOnce is the chapter's section 'Ways': the parts are made once, and no use is lost, when many call a new key at a time.
func TestCallsAtOnce(t *testing.T) {
	const callers, calls = 16, 20
	want := wantSeal("secret", 7, "h", "abc")
	for range 20 {
		k := seal.New("secret")
		var wait sync.WaitGroup
		for range callers {
			wait.Go(func() {
				for range calls {
					if got := k.Seal(7, "h", "abc"); got != want {
						t.Errorf("Seal: %x, want %x", got, want)
					}
					checkOpen(t, k, 7, "h", want, "abc", api.OK)
					checkOpen(t, k, 8, "h", want, "", api.ErrTag)
				}
			})
		}
		wait.Wait()
		checkUsed(t, k, callers*calls, callers*calls)
	}
}

// FuzzSeal holds promises 6.1 and 6.3 at all texts and numbers.
func FuzzSeal(f *testing.F) {
	for i, size := range edgeSizes {
		f.Add(someText(size/2), edgeNumbers[i], someText(size/3), someText(size), uint(size), byte(1))
	}
	f.Fuzz(func(t *testing.T, secret string, number int64, head, data string, at uint, by byte) {
		checkSeal(t, secret, number, head, data)
		sealed := wantSeal(secret, number, head, data)
		if by != 0 {
			checkOpen(t, seal.New(secret), number, head, turned(sealed, int(at%uint(len(sealed))), by), "", api.ErrTag)
		}
	})
}

// FuzzOpen holds promises 6.1 and 6.2 at all bytes.
func FuzzOpen(f *testing.F) {
	for i, size := range edgeSizes {
		f.Add("secret", edgeNumbers[i], "head", someText(size))
		f.Add("secret", edgeNumbers[i], "head", wantSeal("secret", edgeNumbers[i], "head", someText(size)))
	}
	f.Fuzz(func(t *testing.T, secret string, number int64, head, sealed string) {
		k := seal.New(secret)
		size := len(sealed) - tagSize
		if size < 0 {
			checkOpen(t, k, number, head, sealed, "", api.ErrShort)
			checkUsed(t, k, 0, 0)
			return
		}
		if sealed[size:] != wantTag(secret, number, head, sealed[:size]) {
			checkOpen(t, k, number, head, sealed, "", api.ErrTag)
			checkUsed(t, k, 0, 0)
			return
		}
		checkOpen(t, k, number, head, sealed, wantTurned(secret, number, sealed[:size]), api.OK)
		checkUsed(t, k, 0, 1)
	})
}
