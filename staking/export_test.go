package staking_test

import (
	"fmt"
	"strconv"
	"strings"
	"testing"

	"staking/api"
	"staking/staking"
)

// take imports what must be an export.
func take(t *testing.T, s string) *staking.Engine {
	t.Helper()
	x, e := staking.Import(s)
	if e != api.OK || x == nil {
		t.Fatalf("Import(%q) = %v, %d, want an engine", s, x, e)
	}
	return x
}

// anyCall is a call with its numbers, to be made on several engines alike.
type anyCall struct{ kind, who, val, to, n int }

func pickCall(d *dice, v api.View, most int) anyCall {
	return anyCall{d.pick(16), d.pick(len(v.Balances) + 1), d.pick(len(v.Validators) + 1), d.pick(len(v.Validators)), d.pick(most + 1)}
}

func (c anyCall) on(x *staking.Engine) api.Errno {
	switch c.kind {
	case 0:
		return x.Send(c.who, c.to, c.n)
	case 1:
		return x.Spend(c.who, c.n)
	case 2, 3, 4:
		return x.Bond(c.who, c.val, c.n)
	case 5, 6:
		return x.Unbond(c.who, c.val, c.n)
	case 7:
		return x.Unbond(c.who, c.val, 1)
	case 8:
		return x.Move(c.who, c.val, c.to, c.n)
	case 9:
		return x.Withdraw(c.who, c.val)
	case 10:
		return x.Collect(c.who, c.val)
	case 11:
		if c.n%4 > 0 {
			return x.Send(c.who, c.who, 1)
		}
		return x.Slash(c.val, x.See().Height-c.n%5, 1+c.n%100)
	case 12:
		return x.Free(c.who, c.val)
	}
	return x.Block()
}

// told is all that an engine tells without a change.
func told(x *staking.Engine) string {
	v := x.See()
	s := fmt.Sprintf("%+v", v)
	for who := range v.Balances {
		for val := range v.Validators {
			n, e := x.Due(who, val)
			s += fmt.Sprint(" ", n, " ", e)
		}
	}
	return s + " " + x.Export()
}

// covered is what P17 says of an engine, of Due too.
func covered(t *testing.T, what string, x *staking.Engine, tokens int) {
	t.Helper()
	v := x.See()
	sound(t, what, v, tokens)
	for val, k := range v.Validators {
		sum := k.Commission
		for who := range v.Balances {
			n, _ := x.Due(who, val)
			if n < 0 {
				t.Fatalf("%s: Due(%d, %d) = %d", what, who, val, n)
			}
			sum += n
		}
		if sum > k.Outstanding {
			t.Fatalf("%s: commission and dues of validator %d are %d: %+v", what, val, sum, k)
		}
	}
}

func beginnings() []api.Genesis {
	return []api.Genesis{
		{Balances: []int{1000, 1000}, Owners: []int{0}, Rates: []int{10}, Top: 1, Mature: 2, Fee: 10},
		{Balances: []int{50000, 0, 50000, 70}, Owners: []int{0, 1, 3}, Rates: []int{33, 50, 0}, Top: 2, Mature: 1, Fee: 7},
		{Balances: []int{300, 300, 300, 300, 300, 300}, Owners: []int{5, 4, 3, 2, 1}, Rates: []int{0, 1, 50, 99, 100}, Top: 5, Mature: 20, Fee: 1},
		{Balances: []int{166666, 166667, 166667, 166667, 166667, 166666}, Owners: []int{0, 0, 1, 1, 2}, Rates: []int{5, 7, 11, 13, 17}, Top: 3, Mature: 5, Fee: 100},
		{Balances: []int{1000000}, Owners: []int{0}, Rates: []int{100}, Top: 5, Mature: 20, Fee: 0},
		{Balances: []int{0}, Owners: []int{0}, Rates: []int{0}, Top: 1, Mature: 1, Fee: 0},
	}
}

// walked are engines behind some calls, more of them the later they come.
func walked(t *testing.T, seed int) []*staking.Engine {
	t.Helper()
	var list []*staking.Engine
	for i, g := range beginnings() {
		for n := 0; n < 5; n++ {
			x := begin(t, g)
			d := &dice{seed*1000 + i*10 + n}
			for k := 0; k < n*40; k++ {
				pickCall(d, x.See(), g.Balances[0]/4).on(x)
			}
			list = append(list, x)
		}
	}
	return list
}

// The twin goes on with what was imported: it is held to the exact fractions of all blocks, those before the import too.
func TestP17WalksThroughBytesAgreeWithExactFractions(t *testing.T) {
	for seed, g := range beginnings() {
		w := newTwin(t, g)
		d := &dice{seed + 201}
		for i := 0; i < 3000; i++ {
			if d.pick(3) == 0 {
				s := w.x.Export()
				w.x = take(t, s)
				same(t, "export of what was imported", w.x.Export(), s)
			}
			w.harshStep(d, g.Balances[0]/3)
		}
	}
}

func TestP17WhatWasImportedAnswersAsWhatWasExported(t *testing.T) {
	for seed := 0; seed < 8; seed++ {
		d := &dice{seed + 301}
		for i, x := range walked(t, seed) {
			y := take(t, x.Export())
			z := y
			for k := 0; k < 60; k++ {
				if a, b, c := told(x), told(y), told(z); a != b || a != c {
					t.Fatalf("engine %d behind %d calls:\n%s\nimported once:\n%s\nimported often:\n%s", i, k, a, b, c)
				}
				c := pickCall(d, x.See(), 400)
				z = take(t, z.Export())
				e, f, g := c.on(x), c.on(y), c.on(z)
				if e != f || e != g {
					t.Fatalf("engine %d, %+v = %d, imported once %d, imported often %d", i, c, e, f, g)
				}
			}
		}
	}
}

// The examples of the document, with an import between any two of their calls.
func TestP17ExamplesThroughBytes(t *testing.T) {
	x := begin(t, example())
	for _, c := range []struct {
		call func() api.Errno
		want string
	}{
		{func() api.Errno { return x.Bond(1, 0, 300) }, "0 [1000 690] 10 0 300 0 {300 300 0 0 false false}"},
		{func() api.Errno { return x.Block() }, "1 [1000 690] 0 10 0 300 {300 300 0 0 false true}"},
		{func() api.Errno { return x.Send(0, 0, 1) }, "1 [990 690] 10 10 0 300 {300 300 0 0 false true}"},
		{func() api.Errno { return x.Bond(0, 0, 100) }, "1 [880 690] 20 10 0 400 {400 400 0 0 false true}"},
		{func() api.Errno { return x.Block() }, "2 [880 690] 0 10 0 400 {400 400 2 20 false true}"},
		{func() api.Errno { return x.Slash(0, 0, 50) }, "2 [880 690] 0 210 200 0 {200 400 2 20 true false}"},
		{func() api.Errno { return x.Bond(1, 0, 50) }, "2 [880 643] 10 210 250 0 {250 500 2 7 true false}"},
		{func() api.Errno { return x.Unbond(1, 0, 3) }, "2 [880 633] 20 210 250 0 {249 497 2 7 true false}"},
		{func() api.Errno { return x.Block() }, "3 [880 633] 0 230 250 0 {249 497 2 7 true false}"},
		{func() api.Errno { return x.Block() }, "4 [880 634] 0 230 249 0 {249 497 2 7 true false}"},
		{func() api.Errno { return x.Free(0, 0) }, "4 [870 634] 10 230 249 0 {249 497 2 7 false false}"},
		{func() api.Errno { return x.Collect(0, 0) }, "4 [862 634] 20 230 249 0 {249 497 0 5 false false}"},
		{func() api.Errno { return x.Withdraw(0, 0) }, "4 [856 634] 30 230 249 0 {249 497 0 1 false false}"},
	} {
		x = take(t, x.Export())
		same(t, "call", c.call(), api.OK)
		x = take(t, x.Export())
		v := x.See()
		k := v.Validators[0]
		same(t, "See", fmt.Sprint(v.Height, v.Balances, v.Fees, v.Pool, v.Loose, v.Bonded)+fmt.Sprint(" ", struct {
			a, b, c, d int
			e, f       bool
		}{k.Tokens, k.Shares, k.Commission, k.Outstanding, k.Jailed, k.InSet}), c.want)
	}
}

// As many accounts, validators, delegations and entries as there may be, with as many digits as they may have, at the first and at the last height.
func TestP17ExportIsShort(t *testing.T) {
	g := api.Genesis{Balances: []int{166666, 166667, 166667, 166667, 166667, 166666}, Owners: []int{5, 4, 3, 2, 1}, Rates: []int{0, 1, 0, 2, 0}, Top: 5, Mature: 20, Fee: 1}
	x := begin(t, g)
	for who := range g.Balances {
		for val := range g.Owners {
			same(t, "Bond", x.Bond(who, val, 20000+17*who+val), api.OK)
		}
	}
	for x.See().Height < 1000 {
		same(t, "Send", x.Send(x.See().Height%6, 0, 1), api.OK)
		blocks(t, x, 1)
		if x.See().Height == 985 {
			for i := 0; i < 120; i++ {
				same(t, "Unbond", x.Unbond(i%6, i/6%5, 1111), api.OK)
			}
		}
		if n := len(x.Export()); n < 1 || n > 8192 {
			t.Fatalf("at height %d the export has %d bytes", x.See().Height, n)
		}
	}
	same(t, "entries", len(x.See().Entries), 120)
	y := take(t, x.Export())
	same(t, "what was imported", told(y), told(x))
	same(t, "Block behind the last one, imported", y.Block(), api.ErrEnd)
}

func refuseText(t *testing.T, s string) {
	t.Helper()
	x, e := staking.Import(s)
	if x != nil || e != api.ErrText {
		if len(s) > 200 {
			s = s[:200] + "..."
		}
		t.Errorf("Import(%q) = %v, %d, want nil, %d", s, x, e, api.ErrText)
	}
}

func TestP17NoEngineAtAll(t *testing.T) {
	for _, s := range []string{"", " ", "  ", "\x00", "0", "0 ", "1 ", "-1 ", "1 1 1", "x", "NaN ", "1e3 ", "0x1 ", "\xff\xfe", "１ ", "{}", "staking"} {
		refuseText(t, s)
		for _, n := range []int{100, 8192, 8193, 1000000} {
			refuseText(t, strings.Repeat(s, n/(len(s)+1)))
		}
	}
	for _, n := range numbers {
		refuseText(t, strconv.Itoa(n))
		for _, k := range []int{1, 30, 60, 400} {
			refuseText(t, strings.Repeat(strconv.Itoa(n)+" ", k))
		}
	}
	for _, c := range []string{"0", "1", "9", " ", "-", "\n"} {
		for _, n := range []int{19, 20, 8191, 8192, 8193, 9000, 1 << 20} {
			refuseText(t, strings.Repeat(c, n))
		}
	}
}

// plain is the text of an engine at its beginning, where nobody has a token: how many accounts, owners and rates there are may be wrong.
func plain(accounts int, owners int, rates int) string {
	list := strings.Repeat("0 ", accounts)
	s := fmt.Sprint(accounts, " ", list, owners, " ", strings.Repeat("0 ", owners), rates, " ", strings.Repeat("0 ", rates), "1 1 0 0 0 0 ")
	return s + strings.Repeat("0 0 0 0 ", owners) + strings.Repeat("0 ", accounts*owners) + "0 "
}

func TestP17TooManyOrTooFew(t *testing.T) {
	for accounts := 0; accounts <= 8; accounts++ {
		for owners := 0; owners <= 7; owners++ {
			for rates := 0; rates <= 7; rates++ {
				s := plain(accounts, owners, rates)
				if accounts < 1 || accounts > 6 || owners < 1 || owners > 5 || rates != owners {
					refuseText(t, s)
					continue
				}
				g := api.Genesis{Balances: make([]int, accounts), Owners: make([]int, owners), Rates: make([]int, owners), Top: 1, Mature: 1}
				same(t, "export of a beginning", begin(t, g).Export(), s)
				same(t, "import of a beginning", told(take(t, s)), told(begin(t, g)))
			}
		}
	}
}

// One engine has one text: what says the same in another way is refused.
func TestP17OtherWaysToWriteAnEngine(t *testing.T) {
	for _, x := range walked(t, 1) {
		s := x.Export()
		for _, b := range []string{" ", "0", "0 ", "1 ", "\n", "\x00", "x"} {
			refuseText(t, s+b)
			refuseText(t, b+s)
		}
		refuseText(t, s+s)
		refuseText(t, s+strings.Repeat(" ", 8192-len(s)))
		refuseText(t, s+strings.Repeat(" ", 9000-len(s)))
		refuseText(t, strings.Repeat("0", 8192-len(s))+s)
		refuseText(t, strings.TrimRight(s, " "))
		for i := 0; i < len(s); i++ {
			refuseText(t, s[:i])
			if i == 0 || s[i-1] == ' ' {
				refuseText(t, s[:i]+"0"+s[i:])
				refuseText(t, s[:i]+"+"+s[i:])
				refuseText(t, s[:i]+"-"+s[i:])
				refuseText(t, s[:i]+" "+s[i:])
			}
			if s[i] == ' ' {
				for _, b := range []string{"\n", "\t", ",", "  ", "\x00", ".0 "} {
					refuseText(t, s[:i]+b+s[i+1:])
				}
			}
		}
	}
}

// tryBytes holds what Import made of any bytes, if it made an engine, to what P17 says, then and behind calls. It tells whether there was an engine.
func tryBytes(t *testing.T, s string, d *dice, calls int) bool {
	t.Helper()
	x, e := staking.Import(s)
	if e != api.OK {
		if e != api.ErrText || x != nil {
			t.Fatalf("Import(%q) = %v, %d", s, x, e)
		}
		return false
	}
	what := fmt.Sprintf("Import(%q)", s)
	if got := x.Export(); got != s || len(s) > 8192 {
		t.Fatalf("the export of %s is %q", what, got)
	}
	tokens := supply(x.See())
	if tokens > 1000000 {
		t.Fatalf("%s has %d tokens", what, tokens)
	}
	covered(t, what, x, tokens)
	for k := 0; k < calls; k++ {
		c := pickCall(d, x.See(), 500)
		c.on(x)
		covered(t, fmt.Sprintf("%s behind %d calls, the last %+v", what, k+1, c), x, tokens)
	}
	take(t, x.Export())
	return true
}

func TestP17BytesThatWereChanged(t *testing.T) {
	d := &dice{401}
	good := 0
	for i, x := range walked(t, 2) {
		s := x.Export()
		for at := 0; at < len(s); at++ {
			for k := 0; k < 3; k++ {
				b := []byte(s)
				b[at] = "0123456789  -"[d.pick(13)]
				if i%3 == k {
					b[at] = byte(d.pick(256))
				}
				if k == 2 {
					b[d.pick(len(b))] = "0123456789 "[d.pick(11)]
				}
				if tryBytes(t, string(b), d, 6) {
					good++
				}
			}
			tryBytes(t, s[:at]+s[at+1:], d, 6)
			tryBytes(t, s[:at]+s[at:at+1]+s[at:], d, 6)
		}
	}
	if good < 100 {
		t.Errorf("%d engines alone", good)
	}
}

// Numbers are changed as a whole, one or two at a time, and tokens go from one place to another.
func TestP17NumbersThatWereChanged(t *testing.T) {
	d := &dice{501}
	good := 0
	for _, x := range walked(t, 3) {
		list := strings.Fields(x.Export())
		for at := range list {
			n, _ := strconv.Atoi(list[at])
			to := d.pick(len(list))
			m, _ := strconv.Atoi(list[to])
			for _, c := range []struct{ n, m int }{
				{0, m}, {1, m}, {2, m}, {3, m}, {n + 1, m}, {n - 1, m}, {n + 1, m - 1}, {n - 1, m + 1}, {0, n + m}, {n + m, 0}, {m, n},
				{n * 2, m}, {n / 2, m + n/2}, {n + 1000, m}, {999999, m}, {1000000, m}, {1000001, m}, {1000000, 1000000},
				{1 << 30, m}, {1<<30 - 1, m}, {1 << 50, m}, {1 << 62, m}, {greatest, m}, {greatest, greatest}, {least, m},
			} {
				b := append([]string(nil), list...)
				b[to] = strconv.Itoa(c.m)
				b[at] = strconv.Itoa(c.n)
				if tryBytes(t, strings.Join(b, " ")+" ", d, 8) {
					good++
				}
			}
		}
	}
	if good < 1000 {
		t.Errorf("%d engines alone", good)
	}
}

func TestP17FarNumbersAreRefused(t *testing.T) {
	for _, x := range walked(t, 4) {
		list := strings.Fields(x.Export())
		for at := range list {
			for _, n := range []string{"-1", "1073741824000001", "4611686018427387904", "9223372036854775807", "9223372036854775808", "18446744073709551616", "18446744073709551617", "36893488147419103233", strings.Repeat("9", 100), "1" + strings.Repeat("0", 64)} {
				b := append([]string(nil), list...)
				b[at] = n
				refuseText(t, strings.Join(b, " ")+" ")
			}
		}
	}
}

func TestP2ImportedEnginesAreApart(t *testing.T) {
	x := walked(t, 5)[14]
	s := x.Export()
	want := told(x)
	y, z := take(t, s), take(t, s)
	d := &dice{601}
	for k := 0; k < 200; k++ {
		pickCall(d, y.See(), 90).on(y)
	}
	if told(y) == want {
		t.Fatal("the calls changed nothing")
	}
	same(t, "the engine that was exported", told(x), want)
	same(t, "another import", told(z), want)
	same(t, "a later import", told(take(t, s)), want)
}
