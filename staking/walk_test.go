package staking_test

import (
	"fmt"
	"testing"

	"staking/api"
)

// dice answers the same numbers each time.
type dice struct{ seed int }

func (d *dice) pick(n int) int {
	d.seed = (d.seed*1103515245 + 12345) % (1 << 31)
	return d.seed / 65536 % n
}

// step makes one call, of numbers that are mostly good.
func (w *twin) step(d *dice, most int) {
	w.t.Helper()
	accounts, validators := len(w.v.Balances), len(w.v.Validators)
	who, val, to, n := d.pick(accounts), d.pick(validators), d.pick(validators), d.pick(most+1)
	switch d.pick(20) {
	case 0:
		who = d.pick(4) - 2 + accounts
	case 1:
		val = d.pick(4) - 2 + validators
	case 2:
		to = -1
	}
	switch d.pick(18) {
	case 0, 1, 2:
		w.bond(who, val, n)
	case 3:
		w.unbond(who, val, n)
	case 4:
		w.unbond(who, val, w.shares[at{who, val}])
	case 5:
		w.move(who, val, to, n)
	case 6:
		w.move(who, val, to, w.shares[at{who, val}])
	case 7, 8:
		w.withdraw(who, val)
	case 9:
		w.collect(who, val)
	case 10, 11:
		w.send(who, d.pick(accounts), n)
	case 12:
		w.spend(d.pick(accounts), w.v.Pool/2)
	case 13, 14:
		w.unbond(who, val, 1)
	default:
		w.block()
	}
}

// harshStep makes a step, or slashes a validator, or frees one.
func (w *twin) harshStep(d *dice, most int) {
	w.t.Helper()
	val := d.pick(len(w.v.Validators))
	switch d.pick(30) {
	case 0:
		w.slash(val, d.pick(w.v.Height+1), 1+d.pick(30))
	case 1:
		w.slash(val, w.v.Height-d.pick(w.g.Mature+1), 1+d.pick(100))
	case 2:
		w.slash(d.pick(3)-1, w.v.Height+d.pick(3)-1, 99+d.pick(3))
	case 3:
		w.slash(val, w.v.Height, d.pick(3)-1)
	case 4, 5, 6:
		w.free(w.v.Validators[val].Owner, val)
	case 7:
		w.free(d.pick(len(w.v.Balances)+1), d.pick(len(w.v.Validators)+1))
	case 8:
		w.spend(d.pick(len(w.v.Balances)), w.v.Pool/3)
	default:
		w.step(d, most)
	}
}

func TestP5AndP8ToP14WalksAgreeWithExactFractions(t *testing.T) {
	seen := [16]int{}
	for seed, c := range []struct {
		g    api.Genesis
		most int
	}{
		{api.Genesis{Balances: []int{1000, 1000}, Owners: []int{0}, Rates: []int{10}, Top: 1, Mature: 2, Fee: 10}, 300},
		{api.Genesis{Balances: []int{5000, 0, 5000, 70}, Owners: []int{0, 1, 3}, Rates: []int{33, 50, 0}, Top: 2, Mature: 1, Fee: 7}, 60},
		{api.Genesis{Balances: []int{300, 300, 300, 300, 300, 300}, Owners: []int{5, 4, 3, 2, 1}, Rates: []int{0, 1, 50, 99, 100}, Top: 5, Mature: 20, Fee: 1}, 9},
		{api.Genesis{Balances: []int{166666, 166667, 166667, 166667, 166667, 166666}, Owners: []int{0, 0, 1, 1, 2}, Rates: []int{5, 7, 11, 13, 17}, Top: 3, Mature: 5, Fee: 100}, 150000},
		{api.Genesis{Balances: []int{9000, 9000, 9000}, Owners: []int{0, 1}, Rates: []int{0, 0}, Top: 1, Mature: 3, Fee: 100}, 2},
		{api.Genesis{Balances: []int{100000, 300}, Owners: []int{0, 1, 1, 0}, Rates: []int{20, 0, 3, 100}, Top: 4, Mature: 4, Fee: 0}, 5000},
	} {
		w := newTwin(t, c.g)
		d := &dice{seed + 1}
		for i := 0; i < 4500; i++ {
			w.step(d, c.most)
		}
		for e, n := range w.seen {
			seen[e] += n
		}
	}
	for _, e := range []api.Errno{api.OK, api.ErrAccount, api.ErrValidator, api.ErrFunds, api.ErrAmount, api.ErrShares, api.ErrFull, api.ErrOwner} {
		if seen[e] == 0 {
			t.Errorf("the walks never met error %d", e)
		}
	}
}

func TestP5AndP8ToP16WalksWithSlashesAgreeWithExactFractions(t *testing.T) {
	seen := [16]int{}
	for seed, c := range []struct {
		g    api.Genesis
		most int
	}{
		{api.Genesis{Balances: []int{1000, 1000}, Owners: []int{0}, Rates: []int{10}, Top: 1, Mature: 2, Fee: 10}, 300},
		{api.Genesis{Balances: []int{50000, 0, 50000, 70}, Owners: []int{0, 1, 3}, Rates: []int{33, 50, 0}, Top: 2, Mature: 1, Fee: 7}, 600},
		{api.Genesis{Balances: []int{300, 300, 300, 300, 300, 300}, Owners: []int{5, 4, 3, 2, 1}, Rates: []int{0, 1, 50, 99, 100}, Top: 5, Mature: 20, Fee: 1}, 9},
		{api.Genesis{Balances: []int{166666, 166667, 166667, 166667, 166667, 166666}, Owners: []int{0, 0, 1, 1, 2}, Rates: []int{5, 7, 11, 13, 17}, Top: 3, Mature: 5, Fee: 100}, 150000},
		{api.Genesis{Balances: []int{500000, 500000}, Owners: []int{0, 1, 1, 0}, Rates: []int{20, 0, 3, 100}, Top: 4, Mature: 4, Fee: 100}, 400000},
	} {
		w := newTwin(t, c.g)
		d := &dice{seed + 101}
		for i := 0; i < 4500; i++ {
			w.harshStep(d, c.most)
		}
		for e, n := range w.seen {
			seen[e] += n
		}
	}
	for _, e := range []api.Errno{api.OK, api.ErrDead, api.ErrSmall, api.ErrFull, api.ErrOwner, api.ErrJail, api.ErrHeight, api.ErrPart} {
		if seen[e] == 0 {
			t.Errorf("the walks never met error %d", e)
		}
	}
}

// What is due is exact to two tokens however many blocks there were, not to two a block.
func TestP12ExactOverAllBlocks(t *testing.T) {
	for _, c := range []struct {
		bonds    []int
		fee      int
		messages int
	}{
		{[]int{1, 2, 97777}, 1, 1},
		{[]int{1, 1, 1}, 100, 1},
		{[]int{300, 7, 11, 13}, 1, 1},
		{[]int{900000, 1, 1, 7}, 1, 1},
		{[]int{499979, 400009, 1}, 1, 2},
		{[]int{990001}, 1, 3},
		{[]int{700001, 200003, 9999}, 7, 2},
		{[]int{600011, 300007, 3}, 3, 1},
		// Of 997902 shares each gets a part that has, as a binary fraction, ones at many places far behind the point: what is cut off is as much as can be.
		{[]int{997902}, 1, 1},
	} {
		g := api.Genesis{Balances: []int{0}, Owners: []int{0}, Rates: []int{0}, Top: 1, Mature: 1, Fee: c.fee}
		rest := 1000000
		for _, b := range c.bonds {
			g.Balances = append(g.Balances, b+c.fee)
			rest -= b + c.fee
		}
		g.Balances[0] = rest
		w := newTwin(t, g)
		for i, b := range c.bonds {
			w.bond(i+1, 0, b)
		}
		for i := 0; i < 1000; i++ {
			for j := 0; j < c.messages; j++ {
				if w.v.Balances[0] < 2*c.fee {
					w.spend(0, w.v.Pool)
				}
				w.send(0, 0, 1)
			}
			w.block()
		}
		same(t, fmt.Sprint("height with ", c.bonds), w.x.See().Height, 1000)
		for who := range g.Balances {
			w.withdraw(who, 0)
		}
	}
}

// All tokens go round as fees in each of the blocks there may be, to one share: no sum may run over.
func TestP12AllTokensInEveryBlock(t *testing.T) {
	x := begin(t, api.Genesis{Balances: []int{1000000}, Owners: []int{0}, Rates: []int{0}, Top: 1, Mature: 1, Fee: 100})
	x.Bond(0, 0, 1)
	x.Block()
	x.Spend(0, 100)
	for x.See().Height < 1000 {
		messages := x.See().Balances[0]/100 - 1
		for i := 0; i < messages; i++ {
			x.Send(0, 0, 1)
		}
		sum := x.See().Fees
		if sum < 990000 {
			t.Fatalf("fees of %d alone", sum)
		}
		same(t, "Block", x.Block(), api.OK)
		d := due(t, x, 0, 0, sum-1, sum)
		before := x.See().Balances[0]
		same(t, "Withdraw", x.Withdraw(0, 0), api.OK)
		same(t, "balance", x.See().Balances[0], before-100+d)
		sound(t, "a round", x.See(), 1000000)
	}
}
