package hash

import (
	"bytes"
	"math/rand"
	"testing"

	"docket/api"
)

const draws = 4000

// withRoom is a copy of b with spare room behind it.
func withRoom(b []byte) []byte {
	return append(bytes.Clone(b), "spare room"...)[:len(b)]
}

// whole is all bytes of a list, its spare room too.
func whole(b []byte) string { return string(b[:cap(b)]) }

// turn writes over all of a list, its spare room too.
func turn(b []byte) {
	b = b[:cap(b)]
	for i := range b {
		b[i] ^= 255
	}
}

func TestOnlyRead(t *testing.T) {
	for _, n := range edgeSizes() {
		for _, m := range edgeSizes() {
			a, b := withRoom(counted(n)), withRoom(counted(m))
			aWas, bWas := whole(a), whole(b)
			Sum(a)
			Hex(a)
			Sealed(a, b)
			Sealed(b, a)
			Sealed(a, a)
			Same(a, b)
			Same(a, a)
			if whole(a) != aWas || whole(b) != bWas {
				t.Fatalf("lists of %d and %d bytes were written on", n, m)
			}
		}
	}
}

// What was answered stays as it is whatever becomes of what was handed in, and of what else was answered.
func TestNewMemory(t *testing.T) {
	for _, n := range edgeSizes() {
		b, secret := withRoom(counted(n)), withRoom(counted(n+1))
		sum, sealed, text := Sum(b), Sealed(secret, b), Hex(b)
		turn(b)
		turn(secret)
		if sum != modelSum(counted(n)) || sealed != modelSealed(counted(n+1), counted(n)) || text != modelHex(counted(n)) {
			t.Errorf("what was told of %d bytes changed with them", n)
		}
		one, _ := Unhex(text)
		two, _ := Unhex(text)
		turn(one)
		if !bytes.Equal(two, counted(n)) || text != modelHex(counted(n)) {
			t.Errorf("two answers of Unhex share bytes, at %d", n)
		}
		wantUnhex(t, text, counted(n), api.OK)
	}
	d := Sum(nil)
	turn(d[:])
	wantSum(t, nil, modelHex([]byte("\xe3\xb0\xc4\x42\x98\xfc\x1c\x14\x9a\xfb\xf4\xc8\x99\x6f\xb9\x24\x27\xae\x41\xe4\x64\x9b\x93\x4c\xa4\x95\x99\x1b\x78\x52\xb8\x55")))
}

// What a call answers hangs on its arguments alone, not on the calls ahead of it.
func TestAgain(t *testing.T) {
	for range 3 {
		wantSum(t, []byte("abc"), "ba7816bf8f01cfea414140de5dae2223b00361a396177a9cb410ff61f20015ad")
		wantPass(t, "salt", "pass", 2, "4c0d25165b5966024c6978f701f16ffe2d9cd2c136577c5a99fde8c08160f9a8", api.OK)
		wantPass(t, "salt", "pass", 65, "", api.ErrArg)
		wantUnhex(t, "0g", nil, api.ErrText)
	}
}

func TestDrawnBesideModel(t *testing.T) {
	r := rand.New(rand.NewSource(141))
	same := 0
	for range draws {
		a, b := drawBytes(r, drawSize(r)), drawBytes(r, drawSize(r))
		sum, sealed := modelSum(b), modelSealed(a, b)
		wantSum(t, b, modelHex(sum[:]))
		wantSealed(t, a, b, modelHex(sealed[:]))
		wantHex(t, b, modelHex(b))
		other := bytes.Clone(b)
		if len(b) > 0 && r.Intn(2) == 0 {
			other[r.Intn(len(b))] = byte(r.Intn(256))
		}
		wantSame(t, a, b, modelSame(a, b))
		wantSame(t, b, other, modelSame(b, other))
		if modelSame(b, other) {
			same++
		}
	}
	if same < draws/4 || same > 3*draws/4 {
		t.Errorf("of %d lists %d were the same ones: too few to tell", draws, same)
	}
}

func TestUnhexOfHexIsTheBytes(t *testing.T) {
	r := rand.New(rand.NewSource(142))
	for range draws {
		b := drawBytes(r, drawSize(r))
		wantUnhex(t, Hex(b), b, api.OK)
	}
}

func TestHexOfUnhexIsTheText(t *testing.T) {
	r := rand.New(rand.NewSource(143))
	well, odd, wrong := 0, 0, 0
	for range draws {
		s := drawSixteens(r, r.Intn(40))
		want, e := modelUnhex(s)
		wantUnhex(t, s, want, e)
		b, e := Unhex(s)
		switch {
		case e == api.OK:
			well++
			wantHex(t, b, s)
		case len(s)%2 == 1:
			odd++
		default:
			wrong++
		}
	}
	if well < 500 || odd < 500 || wrong < 500 {
		t.Errorf("of %d texts %d were well, %d odd, %d wrong: too few to tell", draws, well, odd, wrong)
	}
}

// passing is what one more time makes of what Pass told.
func passing(t *testing.T, salt, told string) string {
	t.Helper()
	b, e := Unhex(told)
	if e != api.OK || len(b) != 32 {
		t.Fatalf("Pass told %q, which are not 32 bytes", told)
	}
	d := Sealed([]byte(salt), b)
	return Hex(d[:])
}

func TestPassByOneMoreTime(t *testing.T) {
	told, e := Pass("salt", "pass", 1)
	first := Sealed([]byte("salt"), []byte("pass"))
	if e != api.OK || told != Hex(first[:]) {
		t.Errorf("Pass by one time is no seal: %q, %d", told, e)
	}
	for times := 2; times <= 64; times++ {
		told = passing(t, "salt", told)
		wantPass(t, "salt", "pass", times, told, api.OK)
	}
	r := rand.New(rand.NewSource(144))
	well, long := 0, 0
	for range draws / 4 {
		salt, pass, n := drawText(r), drawText(r), 1+r.Intn(63)
		if r.Intn(2) == 0 {
			n = 1 + r.Intn(4)
		}
		want, e := modelPass(salt, pass, n)
		wantPass(t, salt, pass, n, want, e)
		told, e := Pass(salt, pass, n)
		if e != api.OK {
			long++
			wantPass(t, salt, pass, n+1, "", e)
			continue
		}
		well++
		wantPass(t, salt, pass, n+1, passing(t, salt, told), api.OK)
	}
	if well < 500 || long < 30 {
		t.Errorf("%d passes were well, %d too long: too few to tell", well, long)
	}
}
