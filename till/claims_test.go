package till_test

import (
	"math"
	"math/rand"
	"slices"
	"testing"

	"coilrack/api"
	"coilrack/till"
)

func claim(at, lost, past int) api.Claim { return api.Claim{At: at, Lost: lost, Past: past} }

func window(from, to int) api.Window { return api.Window{From: from, To: to} }

// P7.3: what is wrong with a claim, which Refund asks first.
func TestCheckClaim(t *testing.T) {
	for _, c := range []api.Claim{
		claim(-1, 5, 0), claim(api.End, 5, 0), claim(9, 0, 0), claim(9, -1, 0), claim(9, 100_001, 0), claim(9, 5, -1), claim(9, 5, 1_001),
		claim(math.MinInt, 5, 0), claim(math.MaxInt, 5, 0), claim(9, math.MinInt, 0), claim(9, math.MaxInt, 0), claim(9, 5, math.MinInt), claim(9, 5, math.MaxInt), {},
	} {
		if e := till.CheckClaim(c); e != api.ErrArg {
			t.Errorf("%v: %d", c, e)
		}
		if n, e := till.Refund(c, make([]api.Window, 501), 5, 5); n != 0 || e != api.ErrArg {
			t.Errorf("%v: Refund %d %d", c, n, e)
		}
	}
	for _, c := range []api.Claim{claim(0, 1, 0), claim(api.End-1, 100_000, 1_000), claim(500, 250, 1)} {
		if e := till.CheckClaim(c); e != api.OK {
			t.Errorf("%v: %d", c, e)
		}
	}
}

// P7.3: Refund.
func TestRefund(t *testing.T) {
	faults := []api.Window{window(300, 400), window(100, 200), window(7, 7), window(150, 250)}
	for name, x := range map[string]struct {
		c           api.Claim
		faults      []api.Window
		price, most int
		want        int
	}{
		"in a fault":                  {claim(120, 300, 0), faults, 150, 1_000, 300},
		"in a fault, often":           {claim(120, 300, 1_000), faults, 150, 1_000, 300},
		"in two faults":               {claim(160, 300, 9), faults, 150, 1_000, 300},
		"when it begins":              {claim(100, 300, 9), faults, 150, 1_000, 300},
		"before it begins":            {claim(99, 300, 9), faults, 150, 1_000, 0},
		"before it ends":              {claim(399, 300, 9), faults, 150, 1_000, 300},
		"when it ends":                {claim(400, 300, 9), faults, 150, 1_000, 0},
		"in a fault of no minute":     {claim(7, 300, 9), faults, 150, 1_000, 0},
		"in a fault, at most most":    {claim(120, 300, 9), faults, 150, 250, 250},
		"in a fault, most is as much": {claim(120, 300, 9), faults, 150, 300, 300},
		"in a fault, nothing":         {claim(120, 300, 0), faults, 150, 0, 0},
		"in none, never before":       {claim(50, 300, 0), faults, 150, 1_000, 150},
		"in none, once before":        {claim(50, 300, 1), faults, 150, 1_000, 150},
		"in none, twice before":       {claim(50, 300, 2), faults, 150, 1_000, 0},
		"lost less than the price":    {claim(50, 100, 1), faults, 150, 1_000, 100},
		"lost the price":              {claim(50, 150, 1), faults, 150, 1_000, 150},
		"in none, at most most":       {claim(50, 300, 1), faults, 150, 120, 120},
		"lost least":                  {claim(50, 100, 1), faults, 150, 120, 100},
		"without a price":             {claim(50, 100, 0), faults, 0, 120, 0},
		"without faults":              {claim(50, 300, 1), nil, 150, 250, 150},
		"without faults, often":       {claim(50, 300, 9), nil, 150, 250, 0},
		"the last moment":             {claim(api.End-1, 300, 9), []api.Window{window(0, api.End)}, 0, 100_000, 300},
		"the first moment":            {claim(0, 100_000, 9), []api.Window{window(0, 1)}, 0, 100_000, 100_000},
		"a fault of no time":          {claim(0, 300, 9), []api.Window{window(0, 0), window(api.End, api.End)}, 0, 100_000, 0},
		"in the last one of many":     {claim(9, 300, 9), append(slices.Repeat([]api.Window{window(1, 2)}, 499), window(9, 10)), 0, 500, 300},
		"as much as can be":           {claim(50, 100_000, 0), nil, 100_000, 100_000, 100_000},
	} {
		if n, e := till.Refund(x.c, x.faults, x.price, x.most); n != x.want || e != api.OK {
			t.Errorf("%s: %d %d", name, n, e)
		}
	}
}

// P7.3: what Refund refuses.
func TestRefundErrors(t *testing.T) {
	good := window(1, 9)
	for name, x := range map[string]struct {
		faults      []api.Window
		price, most int
		want        api.Errno
	}{
		"too many faults":           {slices.Repeat([]api.Window{good}, 501), 5, 5, api.ErrLarge},
		"large before others":       {slices.Repeat([]api.Window{window(-1, -1)}, 501), -1, -1, api.ErrLarge},
		"from below 0":              {[]api.Window{good, window(-1, 9)}, 5, 5, api.ErrArg},
		"from after to":             {[]api.Window{window(9, 8), good}, 5, 5, api.ErrArg},
		"to after the end":          {[]api.Window{window(9, api.End+1)}, 5, 5, api.ErrArg},
		"both after the end":        {[]api.Window{window(api.End+1, api.End+1)}, 5, 5, api.ErrArg},
		"least and greatest":        {[]api.Window{window(math.MinInt, math.MaxInt)}, 5, 5, api.ErrArg},
		"price below 0":             {[]api.Window{good}, -1, 5, api.ErrArg},
		"price too great":           {nil, 100_001, 5, api.ErrArg},
		"most below 0":              {[]api.Window{good}, 5, -1, api.ErrArg},
		"most too great":            {nil, 5, 100_001, api.ErrArg},
		"least price":               {nil, math.MinInt, 5, api.ErrArg},
		"greatest most":             {nil, 5, math.MaxInt, api.ErrArg},
		"a wrong fault is not used": {[]api.Window{good, good, window(0, -1)}, 5, 5, api.ErrArg},
	} {
		if n, e := till.Refund(claim(5, 300, 0), x.faults, x.price, x.most); n != 0 || e != x.want {
			t.Errorf("%s: %d %d", name, n, e)
		}
	}
}

// P7.3: Refund minute by minute.
func TestRefundOfSome(t *testing.T) {
	r := rand.New(rand.NewSource(76))
	for range 2_000 {
		var faults []api.Window
		faulty := map[int]bool{}
		for range r.Intn(4) {
			w := window(r.Intn(30), 0)
			w.To = w.From + r.Intn(6)
			faults = append(faults, w)
			for m := w.From; m < w.To; m++ {
				faulty[m] = true
			}
		}
		c, price, most := claim(r.Intn(40), 1+r.Intn(9), r.Intn(4)), r.Intn(9), r.Intn(12)
		want := 0
		if c.Past < 2 {
			want = min(c.Lost, price)
		}
		if faulty[c.At] {
			want = c.Lost
		}
		if n, e := till.Refund(c, faults, price, most); n != min(want, most) || e != api.OK {
			t.Fatal(c, faults, price, most, n, e)
		}
	}
}
