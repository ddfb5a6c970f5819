package meter_test

import (
	"math"
	"math/rand"
	"strings"
	"testing"

	"coilrack/api"
	"coilrack/meter"
)

// signed puts the right digits behind a line.
func signed(body string) string {
	const digits = "0123456789abcdef"
	x := 0
	for i := range len(body) {
		x ^= int(body[i])
	}
	return body + " *" + string(digits[x/16]) + string(digits[x%16])
}

// P2.4: lines of readings, written and read.
func TestEncodeAndDecode(t *testing.T) {
	for _, x := range []struct {
		r    api.Reading
		want string
	}{
		{reading(5, 1, 20), "5 1,20 *0a"},
		{reading(0, 0), signed("0 0")},
		{reading(0, 0), "0 0 *20"},
		{reading(10, 7), "10 7 *16"},
		{reading(2, 1), "2 1 *23"},
		{reading(2, 1, 1), "2 1,1 *3e"},
		{reading(2, 1, 0), "2 1,0 *3f"},
		{reading(api.End-1, 999_999, 0, 10), signed("5761439 999999,0,10")},
		{reading(77, equalTo(60, 999_999)...), signed("77 " + strings.Repeat("999999,", 59) + "999999")},
	} {
		s, e := meter.Encode(x.r)
		if s != x.want || e != api.OK {
			t.Errorf("%v: %q %d", x.r, s, e)
		}
		r, e := meter.Decode(x.want)
		if r.At != x.r.At || !same(r.Values, x.r.Values) || e != api.OK {
			t.Errorf("%q: %v %d", x.want, r, e)
		}
	}
}

// P2.4: what Encode refuses, and in which order.
func TestEncodeErrors(t *testing.T) {
	for _, x := range []struct {
		r    api.Reading
		want api.Errno
	}{
		{reading(-1), api.ErrArg},
		{reading(api.End), api.ErrArg},
		{reading(math.MinInt, 1), api.ErrArg},
		{reading(math.MaxInt, 1), api.ErrArg},
		{reading(0), api.ErrForm},
		{reading(0, equalTo(61, -1)...), api.ErrForm},
		{reading(0, 1, -1), api.ErrArg},
		{reading(0, 1_000_000), api.ErrArg},
		{reading(0, math.MinInt), api.ErrArg},
		{reading(0, 1, math.MaxInt), api.ErrArg},
	} {
		if s, e := meter.Encode(x.r); s != "" || e != x.want {
			t.Errorf("%v: %q %d", x.r, s, e)
		}
	}
}

// P2.4: lines that have not their form, and others that have it.
func TestDecodeErrors(t *testing.T) {
	refuses := func(text string, want api.Errno) {
		t.Helper()
		if r, e := meter.Decode(text); r.At != 0 || len(r.Values) != 0 || e != want {
			t.Errorf("%q: %v %d", text, r, e)
		}
	}
	for _, text := range []string{
		"", " ", "*", " *", " *0", " *00", "5", "5 1", "5 1,20", "5 1,20 *", "5 1,20 *0", "5 1,20 *0A", "5 1,20 *0g", "5 1,20 *:a", "5 1,20 *0`",
		"5 1,20 *0a ", " 5 1,20 *0a", "5 1,20 *0a\n", "5 1,20  *0a", "5 1,20*0a", "5 1,20 0a", "5 1,20 *00a", "5 1,20\t*0a",
	} {
		refuses(text, api.ErrSyntax)
	}
	for _, body := range []string{
		"", " ", "5", "5 ", " 1", "5  1", "5 1 2", "5 1, 2", "5 ,1", "5 1,", "5 1,,2", "5 ,", "5,1", "5,1 2", "5\t1",
		"05 1", "5 01", "00 1", "5 00", "5 -0", "-0 1", "5 +1", "+5 1", "5 --1", "5 -", "- 5", "5 1a", "x 1", "5 0x1", "5 1_0", "5 1.0",
		"1000000000 1", "5 1000000000", "5 -1000000000", "5 1000000000000000000000", "5 \xb2", "5 1\x00", "5 1\n",
	} {
		refuses(signed(body), api.ErrSyntax)
	}
	// the digits are others: whatever else is wrong with the reading
	refuses("5 1,20 *3b", api.ErrSum)
	refuses("5 1,20 *0b", api.ErrSum)
	refuses("5 1,20 *1a", api.ErrSum)
	refuses("5 1,20 *8a", api.ErrSum)
	refuses("999999999 1 *00", api.ErrSum)
	refuses("5 999999999 *00", api.ErrSum)
	// numbers that are none of a reading
	refuses(signed("999999999 1"), api.ErrArg)
	refuses(signed("5761440 1"), api.ErrArg)
	refuses(signed("-1 1"), api.ErrArg)
	refuses(signed("5 1000000"), api.ErrArg)
	refuses(signed("5 1,999999999"), api.ErrArg)
	refuses(signed("5 -1"), api.ErrArg)
	refuses(signed("5 "+strings.Repeat("0,", 60)+"0"), api.ErrForm)
	refuses(signed("-5 "+strings.Repeat("0,", 60)+"0"), api.ErrArg)
	refuses(signed("5 "+strings.Repeat("0,", 60)+"-1"), api.ErrForm)
}

// P2.4: how long a line may be.
func TestDecodeLong(t *testing.T) {
	longest := signed("5 " + strings.Repeat("0,", 496) + "0")
	if len(longest) != 999 {
		t.Fatal(len(longest))
	}
	for text, want := range map[string]api.Errno{
		longest:                          api.ErrForm,
		strings.Repeat("x", 1_000):       api.ErrSyntax,
		strings.Repeat("x", 1_001):       api.ErrLarge,
		strings.Repeat("0", 200_000):     api.ErrLarge,
		longest[:2] + "0," + longest[2:]: api.ErrLarge,
	} {
		if r, e := meter.Decode(text); r.At != 0 || len(r.Values) != 0 || e != want {
			t.Errorf("%d bytes: %v %d", len(text), r, e)
		}
	}
}

// P2.4: what Decode reads, Encode writes; nothing else is read.
func TestDecodeOfSome(t *testing.T) {
	r := rand.New(rand.NewSource(5))
	const letters = "0123456789abcdef ,*-+A\n"
	read := 0
	for range 20_000 {
		values := make([]int, 1+r.Intn(3))
		for i := range values {
			values[i] = r.Intn(1_000_000) >> r.Intn(20)
		}
		text, _ := meter.Encode(reading(r.Intn(api.End)>>r.Intn(23), values...))
		b := []byte(text)
		for range 1 + r.Intn(2) {
			b[r.Intn(len(b))] = letters[r.Intn(len(letters))]
		}
		if r.Intn(2) == 0 {
			b = []byte(signed(string(b[:len(b)-4])))
		}
		got, e := meter.Decode(string(b))
		if e != api.OK {
			continue
		}
		read++
		if s, e := meter.Encode(got); s != string(b) || e != api.OK {
			t.Fatalf("%q: %v %q %d", b, got, s, e)
		}
	}
	if read < 100 {
		t.Error(read)
	}
}
