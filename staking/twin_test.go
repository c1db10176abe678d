package staking_test

import (
	"fmt"
	"math/big"
	"testing"

	"staking/api"
	"staking/staking"
)

// at names an account and a validator.
type at struct{ who, val int }

// twin calls an engine, and works out beside it what the document asks, with what is due as exact fractions. The one thing that it takes from the engine is which of the two whole numbers that P12 allows a delegation is paid.
type twin struct {
	t      *testing.T
	x      *staking.Engine
	g      api.Genesis
	v      api.View // all but the delegations
	shares map[at]int
	exact  map[at]*big.Rat
	told   map[at]int // what Due told last, as long as it must tell the same
	all    int
	seen   [16]int
}

func newTwin(t *testing.T, g api.Genesis) *twin {
	t.Helper()
	w := &twin{t: t, x: begin(t, g), g: g, shares: map[at]int{}, exact: map[at]*big.Rat{}, told: map[at]int{}}
	w.v.Balances = append(w.v.Balances, g.Balances...)
	for i := range g.Owners {
		w.v.Validators = append(w.v.Validators, api.Validator{Owner: g.Owners[i], Rate: g.Rates[i]})
	}
	w.all = supply(w.x.See())
	return w
}

// agree holds the engine to what the twin worked out, behind a call.
func (w *twin) agree(what string, got api.Errno, want api.Errno) {
	w.t.Helper()
	w.seen[want]++
	if got != want {
		w.t.Fatalf("%s = %d, want %d", what, got, want)
	}
	v := w.v
	for who := range v.Balances {
		for val := range v.Validators {
			if n := w.shares[at{who, val}]; n > 0 {
				v.Delegations = append(v.Delegations, api.Delegation{Who: who, Val: val, Shares: n})
			}
		}
	}
	for _, k := range v.Validators {
		if k.InSet {
			v.Bonded += k.Tokens
		} else {
			v.Loose += k.Tokens
		}
	}
	for _, e := range v.Entries {
		v.Loose += e.Amount
	}
	see := w.x.See()
	if g, e := fmt.Sprintf("%+v", see), fmt.Sprintf("%+v", v); g != e {
		w.t.Fatalf("See behind %s:\n got %s\nwant %s", what, g, e)
	}
	sound(w.t, what, see, w.all)
	w.agreeOnDues(what)
}

func (w *twin) agreeOnDues(what string) {
	w.t.Helper()
	for val, k := range w.v.Validators {
		sum := k.Commission
		for who := range w.v.Balances {
			d := at{who, val}
			got, e := w.x.Due(who, val)
			if w.shares[d] == 0 {
				if got != 0 || e != api.ErrShares {
					w.t.Fatalf("Due(%d, %d) behind %s = %d, %d, want 0, %d", who, val, what, got, e, api.ErrShares)
				}
				continue
			}
			if e != api.OK || !allowed(got, w.exact[d]) {
				w.t.Fatalf("Due(%d, %d) behind %s = %d, %d, and it is due %s", who, val, what, got, e, w.exact[d].FloatString(9))
			}
			if before, ok := w.told[d]; ok && before != got {
				w.t.Fatalf("Due(%d, %d) behind %s = %d, and was %d", who, val, what, got, before)
			}
			w.told[d] = got
			sum += got
		}
		if sum > k.Outstanding {
			w.t.Fatalf("behind %s commission and dues of validator %d are %d: %+v", what, val, sum, k)
		}
	}
}

// allowed tells whether n is at most e and e below n + 2 (P12).
func allowed(n int, e *big.Rat) bool {
	low, high := big.NewRat(int64(n), 1), big.NewRat(int64(n)+2, 1)
	return n >= 0 && low.Cmp(e) <= 0 && e.Cmp(high) < 0
}

// message takes the fee.
func (w *twin) message(who int) api.Errno {
	if who < 0 || who >= len(w.v.Balances) {
		return api.ErrAccount
	}
	if w.v.Balances[who] < w.g.Fee {
		return api.ErrFunds
	}
	w.v.Balances[who] -= w.g.Fee
	w.v.Fees += w.g.Fee
	return api.OK
}

func (w *twin) noValidator(val int) bool { return val < 0 || val >= len(w.v.Validators) }

// paid pays a delegation, if there is one.
func (w *twin) paid(d at) {
	if w.shares[d] > 0 {
		w.v.Balances[d.who] += w.told[d]
		w.v.Validators[d.val].Outstanding -= w.told[d]
	}
	w.exact[d] = new(big.Rat)
	w.told[d] = 0
}

func (w *twin) coming(val int, tokens int) (int, api.Errno) {
	k := w.v.Validators[val]
	if k.Shares == 0 {
		return tokens, api.OK
	}
	if k.Tokens == 0 {
		return 0, api.ErrDead
	}
	bought := tokens * k.Shares / k.Tokens
	if bought == 0 {
		return 0, api.ErrSmall
	}
	if k.Shares+bought > 1000000 {
		return 0, api.ErrFull
	}
	return bought, api.OK
}

func (w *twin) come(d at, tokens int, bought int) {
	w.paid(d)
	w.v.Validators[d.val].Tokens += tokens
	w.v.Validators[d.val].Shares += bought
	w.shares[d] += bought
}

func (w *twin) worth(val int, shares int) int {
	return shares * w.v.Validators[val].Tokens / w.v.Validators[val].Shares
}

func (w *twin) depart(d at, tokens int, shares int) {
	w.paid(d)
	k := &w.v.Validators[d.val]
	k.Tokens -= tokens
	k.Shares -= shares
	w.shares[d] -= shares
	if w.shares[d] == 0 {
		delete(w.exact, d)
		delete(w.told, d)
	}
	if k.Shares == 0 {
		w.v.Pool += k.Outstanding - k.Commission
		k.Outstanding = k.Commission
	}
}

func (w *twin) send(who int, to int, amount int) {
	w.t.Helper()
	e := w.message(who)
	switch {
	case e != api.OK:
	case to < 0 || to >= len(w.v.Balances):
		e = api.ErrAccount
	case amount < 1:
		e = api.ErrAmount
	case w.v.Balances[who] < amount:
		e = api.ErrFunds
	default:
		w.v.Balances[who] -= amount
		w.v.Balances[to] += amount
	}
	w.agree(fmt.Sprintf("Send(%d, %d, %d)", who, to, amount), w.x.Send(who, to, amount), e)
}

func (w *twin) spend(to int, amount int) {
	w.t.Helper()
	e := api.OK
	switch {
	case to < 0 || to >= len(w.v.Balances):
		e = api.ErrAccount
	case amount < 1:
		e = api.ErrAmount
	case w.v.Pool < amount:
		e = api.ErrFunds
	default:
		w.v.Pool -= amount
		w.v.Balances[to] += amount
	}
	w.agree(fmt.Sprintf("Spend(%d, %d)", to, amount), w.x.Spend(to, amount), e)
}

func (w *twin) bond(who int, val int, amount int) {
	w.t.Helper()
	e := w.message(who)
	switch {
	case e != api.OK:
	case w.noValidator(val):
		e = api.ErrValidator
	case amount < 1:
		e = api.ErrAmount
	case w.v.Balances[who] < amount:
		e = api.ErrFunds
	default:
		var bought int
		if bought, e = w.coming(val, amount); e == api.OK {
			w.v.Balances[who] -= amount
			w.come(at{who, val}, amount, bought)
		}
	}
	w.agree(fmt.Sprintf("Bond(%d, %d, %d)", who, val, amount), w.x.Bond(who, val, amount), e)
}

func (w *twin) unbond(who int, val int, shares int) {
	w.t.Helper()
	e := w.message(who)
	entries := 0
	for _, n := range w.v.Entries {
		if n.Who == who && n.Val == val {
			entries++
		}
	}
	switch {
	case e != api.OK:
	case w.noValidator(val):
		e = api.ErrValidator
	case shares < 1 || shares > w.shares[at{who, val}]:
		e = api.ErrShares
	case entries >= 4:
		e = api.ErrFull
	default:
		tokens := w.worth(val, shares)
		w.depart(at{who, val}, tokens, shares)
		if tokens > 0 {
			w.v.Entries = append(w.v.Entries, api.Entry{Who: who, Val: val, Made: w.v.Height, Amount: tokens})
		}
	}
	w.agree(fmt.Sprintf("Unbond(%d, %d, %d)", who, val, shares), w.x.Unbond(who, val, shares), e)
}

func (w *twin) move(who int, val int, to int, shares int) {
	w.t.Helper()
	e := w.message(who)
	switch {
	case e != api.OK:
	case w.noValidator(val) || w.noValidator(to) || val == to:
		e = api.ErrValidator
	case shares < 1 || shares > w.shares[at{who, val}]:
		e = api.ErrShares
	case w.worth(val, shares) == 0:
		e = api.ErrSmall
	default:
		tokens := w.worth(val, shares)
		var bought int
		if bought, e = w.coming(to, tokens); e == api.OK {
			w.depart(at{who, val}, tokens, shares)
			w.come(at{who, to}, tokens, bought)
		}
	}
	w.agree(fmt.Sprintf("Move(%d, %d, %d, %d)", who, val, to, shares), w.x.Move(who, val, to, shares), e)
}

func (w *twin) withdraw(who int, val int) {
	w.t.Helper()
	e := w.message(who)
	switch {
	case e != api.OK:
	case w.noValidator(val):
		e = api.ErrValidator
	case w.shares[at{who, val}] == 0:
		e = api.ErrShares
	default:
		w.paid(at{who, val})
	}
	w.agree(fmt.Sprintf("Withdraw(%d, %d)", who, val), w.x.Withdraw(who, val), e)
}

func (w *twin) collect(who int, val int) {
	w.t.Helper()
	e := w.message(who)
	switch {
	case e != api.OK:
	case w.noValidator(val):
		e = api.ErrValidator
	case w.v.Validators[val].Owner != who:
		e = api.ErrOwner
	default:
		k := &w.v.Validators[val]
		w.v.Balances[who] += k.Commission
		k.Outstanding -= k.Commission
		k.Commission = 0
	}
	w.agree(fmt.Sprintf("Collect(%d, %d)", who, val), w.x.Collect(who, val), e)
}

func (w *twin) slash(val int, height int, percent int) {
	w.t.Helper()
	e := api.OK
	switch {
	case w.noValidator(val):
		e = api.ErrValidator
	case height < 0 || height > w.v.Height:
		e = api.ErrHeight
	case percent < 1 || percent > 100:
		e = api.ErrPart
	default:
		k := &w.v.Validators[val]
		before := k.Tokens
		k.Tokens -= k.Tokens * percent / 100
		w.v.Pool += before - k.Tokens
		k.Jailed, k.InSet = true, false
		for i, n := range w.v.Entries {
			if n.Val == val && n.Made >= height {
				w.v.Entries[i].Amount -= n.Amount * percent / 100
				w.v.Pool += n.Amount - w.v.Entries[i].Amount
			}
		}
	}
	w.agree(fmt.Sprintf("Slash(%d, %d, %d)", val, height, percent), w.x.Slash(val, height, percent), e)
}

func (w *twin) free(who int, val int) {
	w.t.Helper()
	e := w.message(who)
	switch {
	case e != api.OK:
	case w.noValidator(val):
		e = api.ErrValidator
	case w.v.Validators[val].Owner != who:
		e = api.ErrOwner
	case !w.v.Validators[val].Jailed:
		e = api.ErrJail
	default:
		w.v.Validators[val].Jailed = false
	}
	w.agree(fmt.Sprintf("Free(%d, %d)", who, val), w.x.Free(who, val), e)
}

func (w *twin) block() {
	w.t.Helper()
	e := api.OK
	if w.v.Height == 1000 {
		e = api.ErrEnd
	} else {
		w.shareOut()
		w.v.Height++
		w.mature()
		w.choose()
	}
	w.agree("Block", w.x.Block(), e)
}

func (w *twin) shareOut() {
	all, left := 0, w.v.Fees
	for _, k := range w.v.Validators {
		if k.InSet {
			all += k.Tokens
		}
	}
	for val := range w.v.Validators {
		k := &w.v.Validators[val]
		if !k.InSet || k.Tokens == 0 {
			continue
		}
		part := w.v.Fees * k.Tokens / all
		commission := part * k.Rate / 100
		left -= part
		k.Commission += commission
		k.Outstanding += part
		for who := range w.v.Balances {
			d := at{who, val}
			if w.shares[d] > 0 && part > commission {
				w.exact[d].Add(w.exact[d], big.NewRat(int64((part-commission)*w.shares[d]), int64(k.Shares)))
				delete(w.told, d)
			}
		}
	}
	w.v.Pool += left
	w.v.Fees = 0
}

func (w *twin) mature() {
	entries := w.v.Entries
	w.v.Entries = nil
	for _, n := range entries {
		if n.Made+w.g.Mature == w.v.Height {
			w.v.Balances[n.Who] += n.Amount
		} else {
			w.v.Entries = append(w.v.Entries, n)
		}
	}
}

// choose counts how many go before each: the set is those with fewer than Top.
func (w *twin) choose() {
	for i := range w.v.Validators {
		k := &w.v.Validators[i]
		before := 0
		for j, o := range w.v.Validators {
			if !o.Jailed && (o.Tokens > k.Tokens || o.Tokens == k.Tokens && j < i) {
				before++
			}
		}
		k.InSet = !k.Jailed && k.Tokens > 0 && before < w.g.Top
	}
}
