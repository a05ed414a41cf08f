package hash

import (
	"bytes"
	"math"
	"testing"

	"docket/api"
)

// short is a text that a message can hold.
func short[T string | []byte](s T) string {
	if len(s) > 80 {
		return string(s[:80]) + ".."
	}
	return string(s)
}

func wantSum(t *testing.T, b []byte, want string) {
	t.Helper()
	if got := Sum(b); modelHex(got[:]) != want {
		t.Errorf("Sum(%q), of %d bytes, = %x, want %s", short(b), len(b), got, want)
	}
}

func wantSealed(t *testing.T, secret, b []byte, want string) {
	t.Helper()
	if got := Sealed(secret, b); modelHex(got[:]) != want {
		t.Errorf("Sealed(%q, %q), of %d and %d bytes, = %x, want %s", short(secret), short(b), len(secret), len(b), got, want)
	}
}

func wantHex(t *testing.T, b []byte, want string) {
	t.Helper()
	if got := Hex(b); got != want {
		t.Errorf("Hex(%q) = %q, want %q", short(b), short(got), short(want))
	}
}

func wantUnhex(t *testing.T, s string, want []byte, e api.Errno) {
	t.Helper()
	got, ge := Unhex(s)
	if !bytes.Equal(got, want) || ge != e {
		t.Errorf("Unhex(%q) = %q, %d, want %q, %d", short(s), short(got), ge, short(want), e)
	}
	if ge != api.OK && got != nil {
		t.Errorf("Unhex(%q) answers bytes beside its error", short(s))
	}
}

func wantSame(t *testing.T, a, b []byte, want bool) {
	t.Helper()
	if Same(a, b) != want || Same(b, a) != want {
		t.Errorf("Same(%q, %q) = %t, and turned about %t, want %t", short(a), short(b), Same(a, b), Same(b, a), want)
	}
}

func wantPass(t *testing.T, salt, pass string, times int, want string, e api.Errno) {
	t.Helper()
	if got, ge := Pass(salt, pass, times); got != want || ge != e {
		t.Errorf("Pass(%q, %q, %d), of %d and %d bytes, = %s, %d, want %s, %d", short(salt), short(pass), times, len(salt), len(pass), got, ge, want, e)
	}
}

func TestExamples(t *testing.T) {
	wantSum(t, nil, "e3b0c44298fc1c149afbf4c8996fb92427ae41e4649b934ca495991b7852b855")
	wantSum(t, []byte{}, "e3b0c44298fc1c149afbf4c8996fb92427ae41e4649b934ca495991b7852b855")
	wantSum(t, []byte("abc"), "ba7816bf8f01cfea414140de5dae2223b00361a396177a9cb410ff61f20015ad")
	wantSealed(t, []byte("key"), []byte("The quick brown fox jumps over the lazy dog"), "f7bc83f430538424b13298e6aa6fb143ef4d59a14946175997479dbc2d1a3cd8")
	wantUnhex(t, "0aFF", nil, api.ErrText)
	wantUnhex(t, "abc", nil, api.ErrText)
	wantUnhex(t, "00ff", []byte{0, 255}, api.OK)
}

// These digests were told by another program; the bytes are counted ones, but for those of one byte.
func TestSumsToldElsewhere(t *testing.T) {
	for _, c := range []struct {
		n    int
		want string
	}{
		{1, "084fed08b978af4d7d196a7446a86b58009e636b611db16211b65a9aadff29c5"},
		{2, "323b730f87b4e7cc0948351a1c11b757b3026cda6784282576757bca21f12483"},
		{3, "6ab0dba1f4f1dfbb37b4f9eeb092c09fca4900ad32bdcd147d8dde35d6c87c35"},
		{31, "721f1b54dd0f746ef819ba479fcd63b6117bfbe44acc432bf0cb0a639fd41766"},
		{32, "ab5f8b5cb9435354c7b58603592d5faf081e17ceb05f7a7c67f4b666f12ca457"},
		{54, "c17917230c1e735a96829953f52db5339d0d82265e5699ee6451ae70ab0d559d"},
		{55, "1deace58c745f3ecadde68a5923f494c3703fa73f0306483ccb898a5826e8d70"},
		{56, "06dbe23685750e4d3881ded95047abaf93fa8f9c5d3501dc57c717a72ff1398e"},
		{57, "011f4bced20a249afb834d24b3e4eca31ad5ea2bdd1d8a1a564c2d2410398e69"},
		{63, "47fb38b12335c9298d09280515c0666489a189d1554bb0ac1a0740806ce9d8b6"},
		{64, "dfa798724b1a8014994f363e5da7474ed26ce3757fb29e07aa47ad5a9352d37b"},
		{65, "dd2eab5a5507d7717c63ce953d9ac61752c21e664425ad1227054722a0d97f69"},
		{118, "fb162af9fa59b034b3ba902757e112411f3ce0e6c84c458013dfc54da2bcdfbf"},
		{119, "c6e0f435df5d7d265baacca31e0602c00aa22fa6d3819aed664649294c743756"},
		{120, "17eb8960823a644bde3065620bb9d45931fe8993fd8eb692a17aff0fd725db6a"},
		{121, "8a9e7f672f828772a23530c5acca713a2a3ebae8a20e423fa0ee9ba59af9694a"},
		{127, "2409a159329f4e770a7d8128130497abb1de01ffb6ad389d97d89ebbeeb7f02c"},
		{128, "3a9c1e22e20578eebe442238f431befd688bd56698eb7c77d95d3f97d8f58207"},
		{129, "956f5da998f608be52587f28902b608909b661f99a1b300e3d3046b4f69f6fb5"},
		{183, "298e3ca03867658d8adfe13d84a28c71e1a0a376e7cc39dc531753e86cfe554d"},
		{184, "6988d62e2a0d236636b4be137f20b33e55de59a0655fd50b45359afab7967260"},
		{191, "62c1107391c5e145e5577267d09df1fdc02fc5e5a03f5dba9d7788d8382d5dff"},
		{192, "c1828d1c5542ac4ce1da57e0fb6430a1a25b281c4d422cef968921f4567f9c13"},
		{1000, "a9425c416f534025a4e2422bd14adba4ec3d4a68d10c3329be8df612964d2b6e"},
		{8191, "b533c2b3f717ef54a2e6ff6347b14eb0b0c3af5ff7e78fc7ab85ea4c4b7f3224"},
		{8192, "c476a00d8b74e4d2fe350d8447e37bb4e0da1b30b0944db5f818b23b7df3c911"},
		{16384, "90b834666bd99804aad5f0d312a8862f91872e635fd6063d42fe787c4e1d84ee"},
		{100000, "5889ab642baa09c41570b8888cbf45f3762152cea2490ea6b150208a99c92b10"},
	} {
		wantSum(t, counted(c.n), c.want)
	}
	wantSum(t, []byte{0}, "6e340b9cffb37a989ca544e6bb780a2c78901d3fb33738768511a30617afa01d")
	wantSum(t, []byte{128}, "76be8b528d0075f7aae98d6fa57a6d3c83ae480a8469e668d7b0af968995ac71")
	wantSum(t, []byte{255}, "a8100ae6aa1940d0b663bb31cd466142ebbdbd5187131b92d93818987832eb89")
	wantSum(t, []byte("a"), "ca978112ca1bbdcafac231b39a23dc4da786eff8147c4e72b9807785afee48bb")
	wantSum(t, []byte("abcdbcdecdefdefgefghfghighijhijkijkljklmklmnlmnomnopnopq"), "248d6a61d20638b8e5c026930c3e6039a33ce45964ff2167f6ecedd419db06c1")
	wantSum(t, []byte(chars(1000000, 'a')), "cdc76e5c9914fb9281a1c7e284d73e67f1809a48a497200e046d39ccc7112cd0")
}

func TestSumOfEachLength(t *testing.T) {
	for n := range 400 {
		for _, b := range [][]byte{counted(n), make([]byte, n), []byte(chars(n, 255)), []byte(chars(n, 128))} {
			want := modelSum(b)
			wantSum(t, b, modelHex(want[:]))
		}
	}
	// From so many bytes on their bits are told in one more byte.
	for _, n := range []int{1<<13 - 1, 1 << 13, 1<<13 + 1, 1<<21 - 1, 1 << 21, 1<<21 + 1} {
		b := counted(n)
		want := modelSum(b)
		wantSum(t, b, modelHex(want[:]))
	}
}

func TestSumOfEachByteAlone(t *testing.T) {
	for c := range 256 {
		b := []byte{byte(c)}
		want := modelSum(b)
		wantSum(t, b, modelHex(want[:]))
	}
}

// These seals were told by another program, or stand with the seal's own description (RFC 4231).
func TestSealsToldElsewhere(t *testing.T) {
	for _, c := range []struct {
		secret, n int
		want      string
	}{
		{0, 0, "b613679a0814d9ec772f95d778c35fc5ff1697c493715653c6c712144292c5ad"},
		{0, 1, "a6d76548fe8ed070bb909d99999aab3123ea3de416a2d58bcefb8f867962bb86"},
		{0, 64, "ad367e48f2a7c6bfd0c73b63f63a59426aa9dd6416d60d88ad32a5cf7c286ac5"},
		{1, 0, "be8d44d01aa938627809668b7364a21ed8e9fc8cffa64d18846d126789d4cef8"},
		{1, 55, "3626fd78c3e2db2c44f39ff4700cdc1bc43ce6406e13f28170655e1f28b18beb"},
		{20, 8, "899cfb0cb0d099f60c6c0f321dd534fd6abcf693cc27a66cd404ec81da46d59c"},
		{63, 0, "51bfb6c2242d1c1a963f99b04cbd1f9460d09d0541395b2124611a18113be139"},
		{63, 64, "e211dab206a3e197b9f69c4b629cf38f93c0eade25b159453956d1e2f3e8b8f8"},
		{64, 0, "8b8a1ad68b13e3deba102c3994cf6588af545b4a6edc0eab3cade9fac5a2e536"},
		{64, 1, "3cacd5f93277f661b525b2ed0ae009bd76b4549ac2cccd81974f96f65c5b8aba"},
		{64, 55, "0698afedeeab63edba1348a1cdff7279082897cfdcf8ec2e0ff6a82137b8ce82"},
		{64, 56, "a68f05907acab7c0fb2af28d9d9d824f3af1cc27fc774a66f81a1ec259373ca8"},
		{64, 63, "27fc28685e82b7810a99be3817ecb017b0a116895d6b131552fe3a54e6ad92c3"},
		{64, 64, "99da7e9f1da4a806f8942c97752ea37345a14ce15ee5d7590d93c3a5aaae1259"},
		{64, 65, "33d7857813da3b16993f7d247006519e69e097bd5aac4626290284e2a2314747"},
		{65, 0, "ad1483ac6f41620d560b7066e6ba33da5ba22415a3ebd4e078c8e23cc2e6f0c4"},
		{65, 64, "28d1e58c09303aaaad81d98222d725370d380cc696a90d6ed9ab2ea7e8ddf974"},
		{66, 7, "2eb8bbc88a0ae39682d93e81389b5375890919b947f710ccd20a5a44da618cdc"},
		{128, 3, "6d046f4f612ab9104fa4e4ebef581a6927b2b45be949a7f98b9d112d9d841f72"},
		{1000, 0, "601f41949147b18ce90f7e6accab306f4160f626b4db8be74224596b864540f8"},
		{1000, 1000, "00450221814ab6d6bb5b540e4b27647d3a86ff81fa86bff5fa28228b4ebeefa8"},
		{5000, 100000, "0965af80f4c8954ebc94a876fd9ac23aba7d9adf9c0d90f123ea7d11a09697ca"},
	} {
		wantSealed(t, counted(c.secret), counted(c.n), c.want)
	}
	wantSealed(t, nil, nil, "b613679a0814d9ec772f95d778c35fc5ff1697c493715653c6c712144292c5ad")
	wantSealed(t, []byte(chars(20, 0x0b)), []byte("Hi There"), "b0344c61d8db38535ca8afceaf0bf12b881dc200c9833da726e9376c2e32cff7")
	wantSealed(t, []byte("Jefe"), []byte("what do ya want for nothing?"), "5bdcc146bf60754e6a042426089575c75a003f089d2739839dec58b964ec3843")
	wantSealed(t, []byte(chars(20, 0xaa)), []byte(chars(50, 0xdd)), "773ea91e36800e46854db8ebd09181a72959098b3ef8c122d9635514ced565fe")
	wantSealed(t, []byte(chars(131, 0xaa)), []byte("Test Using Larger Than Block-Size Key - Hash Key First"), "60e431591ee0b67f0d8a26aacbf5b77f8e0bc6213728c5140546040f0ee37f54")
}

func TestSealedAtEachLength(t *testing.T) {
	for n := range 200 {
		for _, m := range edgeSizes() {
			a, b := counted(n), counted(m)
			want := modelSealed(a, b)
			wantSealed(t, a, b, modelHex(want[:]))
			want = modelSealed(b, a)
			wantSealed(t, b, a, modelHex(want[:]))
		}
	}
}

// A secret of up to 64 bytes is as one with bytes 0 behind it; a longer one is as its digest.
func TestSecretsThatAreOneKey(t *testing.T) {
	b := []byte("bytes")
	for n := range 64 {
		want := Sealed(counted(64)[:n], b)
		wantSealed(t, append(counted(n), make([]byte, 64-n)...), b, modelHex(want[:]))
	}
	for _, n := range []int{65, 66, 128, 1000} {
		d := Sum(counted(n))
		want := Sealed(d[:], b)
		wantSealed(t, counted(n), b, modelHex(want[:]))
	}
	d := Sum(counted(64))
	if Sealed(d[:], b) == Sealed(counted(64), b) {
		t.Error("a secret of 64 bytes is taken by its digest")
	}
}

func TestHexOfEachByte(t *testing.T) {
	var all []byte
	text := ""
	for c := range 256 {
		want := string([]byte{"0123456789abcdef"[c/16], "0123456789abcdef"[c%16]})
		wantHex(t, []byte{byte(c)}, want)
		wantUnhex(t, want, []byte{byte(c)}, api.OK)
		all = append(all, byte(c))
		text += want
	}
	wantHex(t, all, text)
	wantUnhex(t, text, all, api.OK)
	wantHex(t, nil, "")
	wantHex(t, []byte{}, "")
	wantHex(t, []byte{0, 171, 255}, "00abff")
	wantHex(t, []byte("case"), "63617365")
	wantHex(t, make([]byte, 100000), chars(200000, '0'))
}

func TestUnhexOfEachPlace(t *testing.T) {
	for c := range 256 {
		s := string([]byte{byte(c)})
		worth, is := 0, false
		for i := range 16 {
			if "0123456789abcdef"[i] == byte(c) {
				worth, is = i, true
			}
		}
		if !is {
			for _, x := range []string{s + "0", "0" + s, s + s, s + "0ff", "0" + s + "ff", "00" + s + "f", "00f" + s, "00" + s + "0ff", "000" + s + "ff"} {
				wantUnhex(t, x, nil, api.ErrText)
			}
			continue
		}
		wantUnhex(t, s+"0", []byte{byte(16 * worth)}, api.OK)
		wantUnhex(t, "0"+s, []byte{byte(worth)}, api.OK)
		wantUnhex(t, s+"f", []byte{byte(16*worth + 15)}, api.OK)
		wantUnhex(t, "f"+s, []byte{byte(240 + worth)}, api.OK)
		wantUnhex(t, "00"+s+"7ff", []byte{0, byte(16*worth + 7), 255}, api.OK)
		wantUnhex(t, "007"+s+"ff", []byte{0, byte(112 + worth), 255}, api.OK)
	}
}

func TestUnhexByLength(t *testing.T) {
	wantUnhex(t, "", nil, api.OK)
	for n := range 70 {
		if s := chars(n, '0'); n%2 == 1 {
			wantUnhex(t, s, nil, api.ErrText)
		} else {
			wantUnhex(t, s, make([]byte, n/2), api.OK)
		}
	}
	// No length is too great: MaxText is for what Pass is given.
	for _, n := range []int{api.MaxText, api.MaxText + 2, 1 << 20} {
		wantUnhex(t, chars(n, 'f'), []byte(chars(n/2, 255)), api.OK)
		wantUnhex(t, chars(n-1, 'f'), nil, api.ErrText)
		wantUnhex(t, chars(n-1, 'f')+"F", nil, api.ErrText)
		wantUnhex(t, "g"+chars(n-1, 'f'), nil, api.ErrText)
	}
	for _, s := range []string{"g", " ", "0 ", " 0", "0x", "0x00", "00 ff", "00\n", "ABCD", "aB", "Ab", "ä", "\xff\xff", "-1", "+1"} {
		wantUnhex(t, s, nil, api.ErrText)
	}
}

func TestSame(t *testing.T) {
	wantSame(t, nil, nil, true)
	wantSame(t, nil, []byte{}, true)
	wantSame(t, []byte{}, []byte{}, true)
	wantSame(t, nil, []byte{0}, false)
	wantSame(t, []byte{}, []byte("a"), false)
	wantSame(t, []byte("ab"), []byte("ab"), true)
	wantSame(t, []byte("ab"), []byte("ba"), false)
	wantSame(t, []byte("ab"), []byte("abc"), false)
	wantSame(t, []byte("ab"), []byte("ab\x00"), false)
	for _, n := range []int{1, 2, 3, 32, 64, 1000} {
		b := counted(n)
		wantSame(t, b, b, true)
		wantSame(t, b, counted(n), true)
		wantSame(t, b, counted(n+1), false)
		wantSame(t, b, b[:n-1], false)
		wantSame(t, b, b[1:], false)
		for _, at := range []int{0, n / 2, n - 1} {
			for bit := range 8 {
				other := counted(n)
				other[at] ^= 1 << bit
				wantSame(t, b, other, false)
			}
		}
	}
}

// Two bytes that differ by the same bits must not make up for each other.
func TestSameAtTwoPlaces(t *testing.T) {
	b := counted(40)
	for x := range b {
		for y := range x {
			for _, by := range [][2]byte{{1, 1}, {255, 255}, {1, 255}, {128, 128}, {3, 253}} {
				other := counted(40)
				other[x] ^= by[0]
				other[y] ^= by[1]
				wantSame(t, b, other, false)
			}
		}
	}
}

// These were told by another program.
func TestPassesToldElsewhere(t *testing.T) {
	for _, c := range []struct {
		salt, pass string
		times      int
		want       string
	}{
		{"", "", 1, "b613679a0814d9ec772f95d778c35fc5ff1697c493715653c6c712144292c5ad"},
		{"", "", 2, "a6f991ab2b5f9ee8063c115ab7b4009b0f3bcb8f1090e1afc4a3ff202e82ed00"},
		{"", "", 64, "93c3ff4546409af5a5bd0af7e45b63c331ab0a1396ef71987475488c440a20e9"},
		{"salt", "", 1, "379d7f7966f400cb6e3c0b2cca4bf8a2db03b8c81fef8020015b5a3103c30460"},
		{"", "pass", 1, "a3de2301be7727891f635192670704d041319b589aac61452f9ec615d998f9b8"},
		{"salt", "pass", 1, "02fcc288e7bc681cb111817f981bc8ff7824fa38fc61c7817f2fba7f5b5b4b0d"},
		{"salt", "pass", 2, "4c0d25165b5966024c6978f701f16ffe2d9cd2c136577c5a99fde8c08160f9a8"},
		{"salt", "pass", 3, "e6c21df8c221330a7028d2f6121d1b26be01bd1456c9ec7dc58184c5d1cf4a8b"},
		{"salt", "pass", 4, "629b8a72fb53dbdca578c601b71ba4d6a3efb08eaefa9ff6fb810e4323a94207"},
		{"salt", "pass", 63, "e66fb324a990ffbb3e4916c3273c4fca1171bdf36bf2544ce58ead4a7d878c65"},
		{"salt", "pass", 64, "0625ae8f8b16b1877ed0a3d853eb2fa98220ca09de3e6fe15f83e4f5e1539e7b"},
		{"pass", "salt", 4, "2e6ee9f1c9b4ec8948de14c93cf64fefd2fdd38ec40f1ad5605701d51f46fc33"},
		{chars(16384, 's'), "", 1, "241a5dd02eb399da95f635ecb3d1da1c26e76b41ce7b3f7bab2cc9c50b9499d1"},
		{chars(16384, 's'), chars(16384, 'p'), 1, "7b07fefbf82c0de132c3218bccc59771c5df0ec678bc2fe8fb46a073b176f704"},
		{chars(16384, 's'), chars(16384, 'p'), 64, "5feeac11c90f7050541c90649e1cf8f2f6681eee6077339da69d394910869c1e"},
		{"", chars(16384, 'p'), 2, "c37ae7c4f73f57c49dc1cdfa96c78efee8608c16f836f55847904b142c05161b"},
		{chars(64, 's'), chars(64, 'p'), 2, "65f7eaf26eecf08329bc491286d0d5a2a00046cc56dc1736480a7331e10ea6ee"},
		{chars(65, 's'), chars(65, 'p'), 2, "60aae7c244fd29a1dfcf3580a1b1eb3c4bf315c5dd0dfedaeb9bdb7f188ae8e9"},
	} {
		wantPass(t, c.salt, c.pass, c.times, c.want, api.OK)
	}
	wantPass(t, "key", "The quick brown fox jumps over the lazy dog", 1, "f7bc83f430538424b13298e6aa6fb143ef4d59a14946175997479dbc2d1a3cd8", api.OK)
}

func TestPassByTimesAndLengths(t *testing.T) {
	for times := -3; times <= 70; times++ {
		want, e := modelPass("salt", "pass", times)
		wantPass(t, "salt", "pass", times, want, e)
	}
	for _, times := range []int{math.MinInt, math.MinInt32, -1, 0, 65, 66, 128, math.MaxInt32, math.MaxInt} {
		wantPass(t, "salt", "pass", times, "", api.ErrArg)
		wantPass(t, "", "", times, "", api.ErrArg)
		wantPass(t, chars(api.MaxText, 'a'), chars(api.MaxText, 'a'), times, "", api.ErrArg)
	}
	for _, n := range []int{0, 1, 64, 65, api.MaxText - 1, api.MaxText} {
		for _, m := range []int{0, 1, 64, 65, api.MaxText - 1, api.MaxText} {
			salt, pass := chars(n, 's'), string(counted(m))
			want, _ := modelPass(salt, pass, 2)
			wantPass(t, salt, pass, 2, want, api.OK)
		}
	}
}

func TestPassTellsTextAheadOfTimes(t *testing.T) {
	long := chars(api.MaxText+1, 'a')
	for _, times := range []int{math.MinInt, -1, 0, 1, 2, 64, 65, math.MaxInt} {
		for _, x := range []string{long, chars(1<<20, 0)} {
			wantPass(t, x, "", times, "", api.ErrText)
			wantPass(t, "", x, times, "", api.ErrText)
			wantPass(t, x, x, times, "", api.ErrText)
			wantPass(t, x[1:], x, times, "", api.ErrText)
		}
		wantPass(t, long, long[1:], times, "", api.ErrText)
		wantPass(t, long[1:], long, times, "", api.ErrText)
	}
}

// Texts are bytes: none of them has a meaning of its own.
func TestPassTakesAnyBytes(t *testing.T) {
	for c := range 256 {
		s := string([]byte{byte(c)})
		for _, x := range [][2]string{{s, "pass"}, {"salt", s}, {s, s}, {"sa" + s, s + "ss"}} {
			want, _ := modelPass(x[0], x[1], 3)
			wantPass(t, x[0], x[1], 3, want, api.OK)
		}
	}
}
