package staking_test

import (
	"fmt"
	"testing"

	"staking/api"
)

func TestP9Example(t *testing.T) {
	x := begin(t, example())
	same(t, "Bond(1, 0, 300)", x.Bond(1, 0, 300), api.OK)
	want := api.View{
		Balances: []int{1000, 690}, Fees: 10, Loose: 300,
		Validators:  []api.Validator{{Owner: 0, Rate: 10, Tokens: 300, Shares: 300}},
		Delegations: []api.Delegation{{Who: 1, Val: 0, Shares: 300}},
	}
	same(t, "See behind Bond", x.See(), want)
	same(t, "Block", x.Block(), api.OK)
	want.Height, want.Fees, want.Pool, want.Loose, want.Bonded, want.Validators[0].InSet = 1, 0, 10, 0, 300, true
	same(t, "See behind Block", x.See(), want)
}

func TestP9BondAddsToWhatIsThere(t *testing.T) {
	x := begin(t, free())
	same(t, "Bond(2, 4, 7)", x.Bond(2, 4, 7), api.OK)
	same(t, "Bond(0, 4, 300)", x.Bond(0, 4, 300), api.OK)
	same(t, "Bond(2, 4, 1)", x.Bond(2, 4, 1), api.OK)
	same(t, "Bond(2, 1, 499992)", x.Bond(2, 1, 499992), api.OK)
	v := x.See()
	same(t, "balances", v.Balances, "[700 1000 0]")
	same(t, "delegations", v.Delegations, "[{Who:0 Val:4 Shares:300} {Who:2 Val:1 Shares:499992} {Who:2 Val:4 Shares:8}]")
	same(t, "validator 1", v.Validators[1], api.Validator{Owner: 1, Rate: 0, Tokens: 499992, Shares: 499992})
	same(t, "validator 4", v.Validators[4], api.Validator{Owner: 1, Rate: 50, Tokens: 308, Shares: 308})
	same(t, "Bonded and Loose", fmt.Sprint(v.Bonded, v.Loose), "0 500300")
}

func TestP9AllTokensThereMayBe(t *testing.T) {
	x := begin(t, api.Genesis{Balances: []int{1000000}, Owners: []int{0}, Rates: []int{0}, Top: 1, Mature: 1})
	same(t, "Bond of one too many", x.Bond(0, 0, 1000001), api.ErrFunds)
	same(t, "Bond of all", x.Bond(0, 0, 1000000), api.OK)
	same(t, "validator", x.See().Validators[0], api.Validator{Tokens: 1000000, Shares: 1000000})
	same(t, "Bond of nothing at hand", x.Bond(0, 0, 1), api.ErrFunds)
}

func TestP9Refusals(t *testing.T) {
	x := begin(t, free())
	x.Bond(0, 0, 400)
	x.Block()
	before := x.See()
	for _, c := range []struct {
		who, val, amount int
		e                api.Errno
	}{
		{3, 0, 1, api.ErrAccount}, {-1, 0, 1, api.ErrAccount}, {least, 0, 1, api.ErrAccount}, {greatest, 9, 0, api.ErrAccount},
		{0, 5, 1, api.ErrValidator}, {0, -1, 1, api.ErrValidator}, {0, least, 1, api.ErrValidator}, {0, greatest, 1, api.ErrValidator},
		{0, 5, 0, api.ErrValidator}, {0, 5, 601, api.ErrValidator},
		{0, 0, 0, api.ErrAmount}, {0, 0, -1, api.ErrAmount}, {0, 0, least, api.ErrAmount},
		{0, 0, 601, api.ErrFunds}, {0, 0, greatest, api.ErrFunds}, {0, 1, 601, api.ErrFunds},
	} {
		refused(t, x, fmt.Sprintf("Bond(%d, %d, %d)", c.who, c.val, c.amount), before, x.Bond(c.who, c.val, c.amount), c.e)
	}
	same(t, "Bond of all that is left", x.Bond(0, 0, 600), api.OK)
}

func TestP5BondsCostTheFee(t *testing.T) {
	g := example()
	g.Owners, g.Rates = []int{0, 1}, []int{10, 20}
	x := begin(t, g)
	same(t, "Bond of what the fee takes", x.Bond(1, 0, 991), api.ErrFunds)
	same(t, "Bond", x.Bond(1, 0, 300), api.OK)
	same(t, "Unbond", x.Unbond(1, 0, 301), api.ErrShares)
	same(t, "Unbond", x.Unbond(1, 0, 20), api.OK)
	same(t, "Move", x.Move(1, 0, 0, 1), api.ErrValidator)
	same(t, "Move", x.Move(1, 0, 1, 80), api.OK)
	v := x.See()
	same(t, "balances and fees", fmt.Sprint(v.Balances, v.Fees), "[1000 640] 60")
	same(t, "delegations", v.Delegations, "[{Who:1 Val:0 Shares:200} {Who:1 Val:1 Shares:80}]")
	x.Send(1, 0, 621)
	before := x.See()
	same(t, "balances", before.Balances, "[1621 9]")
	refused(t, x, "Bond without the fee", before, x.Bond(1, 7, 1), api.ErrFunds)
	refused(t, x, "Unbond without the fee", before, x.Unbond(1, 0, 1), api.ErrFunds)
	refused(t, x, "Move without the fee", before, x.Move(1, 0, 1, 1), api.ErrFunds)
}

func TestP10Unbond(t *testing.T) {
	x := begin(t, free())
	x.Bond(0, 0, 300)
	x.Bond(1, 0, 50)
	blocks(t, x, 2)
	same(t, "Unbond(0, 0, 100)", x.Unbond(0, 0, 100), api.OK)
	want := api.View{
		Height: 2, Balances: []int{700, 950, 500000}, Bonded: 250, Loose: 100,
		Validators: []api.Validator{
			{Owner: 0, Rate: 10, Tokens: 250, Shares: 250, InSet: true},
			{Owner: 1}, {Owner: 2, Rate: 100}, {Owner: 0, Rate: 5}, {Owner: 1, Rate: 50},
		},
		Delegations: []api.Delegation{{Who: 0, Val: 0, Shares: 200}, {Who: 1, Val: 0, Shares: 50}},
		Entries:     []api.Entry{{Who: 0, Val: 0, Made: 2, Amount: 100}},
	}
	same(t, "See behind Unbond", x.See(), want)
	same(t, "Unbond of all of one", x.Unbond(1, 0, 50), api.OK)
	want.Bonded, want.Loose = 200, 150
	want.Validators[0].Tokens, want.Validators[0].Shares = 200, 200
	want.Delegations = want.Delegations[:1]
	want.Entries = append(want.Entries, api.Entry{Who: 1, Val: 0, Made: 2, Amount: 50})
	same(t, "See behind Unbond of all of one", x.See(), want)
	same(t, "Unbond of what is gone", x.Unbond(1, 0, 1), api.ErrShares)
}

func TestP10Refusals(t *testing.T) {
	x := begin(t, free())
	x.Bond(0, 0, 300)
	x.Bond(1, 0, 500)
	x.Bond(0, 4, 400)
	before := x.See()
	for _, c := range []struct {
		who, val, shares int
		e                api.Errno
	}{
		{3, 0, 1, api.ErrAccount}, {-1, 0, 1, api.ErrAccount}, {least, 9, 0, api.ErrAccount}, {greatest, 0, 1, api.ErrAccount},
		{0, 5, 1, api.ErrValidator}, {0, -1, 1, api.ErrValidator}, {0, least, 0, api.ErrValidator}, {0, greatest, 1, api.ErrValidator},
		{0, 0, 0, api.ErrShares}, {0, 0, -1, api.ErrShares}, {0, 0, least, api.ErrShares},
		{0, 0, 301, api.ErrShares}, {0, 0, greatest, api.ErrShares}, {0, 4, 401, api.ErrShares},
		{0, 1, 1, api.ErrShares}, {1, 4, 1, api.ErrShares}, {2, 0, 1, api.ErrShares},
	} {
		refused(t, x, fmt.Sprintf("Unbond(%d, %d, %d)", c.who, c.val, c.shares), before, x.Unbond(c.who, c.val, c.shares), c.e)
	}
}

func TestP10EntriesOfOneAccountAtOneValidator(t *testing.T) {
	x := begin(t, free())
	x.Bond(0, 0, 300)
	x.Bond(0, 1, 300)
	x.Bond(1, 0, 300)
	for i := 0; i < 4; i++ {
		same(t, fmt.Sprintf("Unbond number %d", i), x.Unbond(0, 0, 10), api.OK)
		if i == 1 {
			blocks(t, x, 1)
		}
	}
	before := x.See()
	refused(t, x, "a fifth Unbond", before, x.Unbond(0, 0, 10), api.ErrFull)
	refused(t, x, "a fifth Unbond of all", before, x.Unbond(0, 0, 260), api.ErrFull)
	refused(t, x, "a fifth Unbond of too many", before, x.Unbond(0, 0, 261), api.ErrShares)
	refused(t, x, "a fifth Unbond of none", before, x.Unbond(0, 0, 0), api.ErrShares)
	same(t, "Unbond at another validator", x.Unbond(0, 1, 10), api.OK)
	same(t, "Unbond of another account", x.Unbond(1, 0, 10), api.OK)
	same(t, "Move makes no entry", x.Move(0, 0, 1, 10), api.OK)
	blocks(t, x, 2)
	same(t, "entries behind the first payment", len(x.See().Entries), 4)
	same(t, "third Unbond again", x.Unbond(0, 0, 10), api.OK)
	same(t, "fourth Unbond again", x.Unbond(0, 0, 10), api.OK)
	same(t, "fifth Unbond again", x.Unbond(0, 0, 10), api.ErrFull)
}

func TestP10LastShare(t *testing.T) {
	x := begin(t, free())
	x.Bond(0, 0, 300)
	x.Bond(2, 0, 7)
	x.Block()
	same(t, "Unbond", x.Unbond(0, 0, 300), api.OK)
	same(t, "Unbond of the last share", x.Unbond(2, 0, 7), api.OK)
	v := x.See()
	same(t, "validator", v.Validators[0], api.Validator{Owner: 0, Rate: 10, InSet: true})
	same(t, "Bonded, Loose, pool", fmt.Sprint(v.Bonded, v.Loose, v.Pool), "0 307 0")
	same(t, "Bond anew", x.Bond(1, 0, 11), api.OK)
	same(t, "validator", x.See().Validators[0], api.Validator{Owner: 0, Rate: 10, Tokens: 11, Shares: 11, InSet: true})
}

func TestP4EntriesInTheOrderInWhichTheyWereMade(t *testing.T) {
	x := begin(t, free())
	x.Bond(2, 4, 100)
	x.Bond(0, 0, 100)
	x.Bond(1, 2, 100)
	x.Unbond(2, 4, 1)
	x.Unbond(0, 0, 2)
	x.Block()
	x.Unbond(1, 2, 3)
	x.Unbond(0, 0, 4)
	x.Unbond(2, 4, 2)
	same(t, "entries", x.See().Entries, "[{Who:2 Val:4 Made:0 Amount:1} {Who:0 Val:0 Made:0 Amount:2} {Who:1 Val:2 Made:1 Amount:3} {Who:0 Val:0 Made:1 Amount:4} {Who:2 Val:4 Made:1 Amount:2}]")
}

func TestP4DelegationsByAccountThenByValidator(t *testing.T) {
	x := begin(t, free())
	for _, b := range [][2]int{{2, 3}, {0, 4}, {2, 0}, {1, 2}, {0, 1}, {1, 0}} {
		x.Bond(b[0], b[1], 1+b[0]*10+b[1])
	}
	same(t, "delegations", x.See().Delegations, "[{Who:0 Val:1 Shares:2} {Who:0 Val:4 Shares:5} {Who:1 Val:0 Shares:11} {Who:1 Val:2 Shares:13} {Who:2 Val:0 Shares:21} {Who:2 Val:3 Shares:24}]")
}

func TestP11Move(t *testing.T) {
	x := begin(t, free())
	x.Bond(0, 0, 300)
	x.Bond(2, 1, 100)
	x.Block()
	x.Bond(1, 2, 50)
	same(t, "Move(0, 0, 1, 100)", x.Move(0, 0, 1, 100), api.OK)
	want := api.View{
		Height: 1, Balances: []int{700, 950, 499900}, Bonded: 400, Loose: 50,
		Validators: []api.Validator{
			{Owner: 0, Rate: 10, Tokens: 200, Shares: 200, InSet: true},
			{Owner: 1, Tokens: 200, Shares: 200, InSet: true},
			{Owner: 2, Rate: 100, Tokens: 50, Shares: 50}, {Owner: 0, Rate: 5}, {Owner: 1, Rate: 50},
		},
		Delegations: []api.Delegation{{Who: 0, Val: 0, Shares: 200}, {Who: 0, Val: 1, Shares: 100}, {Who: 1, Val: 2, Shares: 50}, {Who: 2, Val: 1, Shares: 100}},
	}
	same(t, "See behind Move", x.See(), want)
	same(t, "Move of all to one outside the set", x.Move(0, 1, 2, 100), api.OK)
	want.Bonded, want.Loose = 300, 150
	want.Validators[1].Tokens, want.Validators[1].Shares = 100, 100
	want.Validators[2].Tokens, want.Validators[2].Shares = 150, 150
	want.Delegations[1].Val = 2
	same(t, "See behind Move of all", x.See(), want)
	same(t, "Move of the last share to one without any", x.Move(0, 0, 4, 200), api.OK)
	v := x.See()
	same(t, "the one that was left", v.Validators[0], api.Validator{Owner: 0, Rate: 10, InSet: true})
	same(t, "the one that got it", v.Validators[4], api.Validator{Owner: 1, Rate: 50, Tokens: 200, Shares: 200})
	same(t, "Bonded, Loose, entries", fmt.Sprint(v.Bonded, v.Loose, v.Entries), "100 350 []")
}

func TestP11Refusals(t *testing.T) {
	x := begin(t, free())
	x.Bond(0, 0, 300)
	x.Bond(1, 0, 500)
	x.Bond(0, 4, 400)
	before := x.See()
	for _, c := range []struct {
		who, val, to, shares int
		e                    api.Errno
	}{
		{3, 0, 1, 1, api.ErrAccount}, {-1, 0, 1, 1, api.ErrAccount}, {least, 9, 9, 0, api.ErrAccount}, {greatest, 0, 1, 1, api.ErrAccount},
		{0, 5, 1, 1, api.ErrValidator}, {0, -1, 1, 1, api.ErrValidator}, {0, least, 1, 1, api.ErrValidator}, {0, greatest, 1, 1, api.ErrValidator},
		{0, 0, 5, 1, api.ErrValidator}, {0, 0, -1, 1, api.ErrValidator}, {0, 0, least, 0, api.ErrValidator}, {0, 0, greatest, 301, api.ErrValidator},
		{0, 0, 0, 1, api.ErrValidator}, {0, 4, 4, 0, api.ErrValidator}, {0, 1, 1, 1, api.ErrValidator},
		{0, 0, 1, 0, api.ErrShares}, {0, 0, 1, -1, api.ErrShares}, {0, 0, 1, least, api.ErrShares},
		{0, 0, 1, 301, api.ErrShares}, {0, 0, 4, 301, api.ErrShares}, {0, 4, 0, 401, api.ErrShares}, {0, 0, 1, greatest, api.ErrShares},
		{0, 1, 0, 1, api.ErrShares}, {1, 4, 0, 1, api.ErrShares}, {2, 0, 4, 1, api.ErrShares},
	} {
		what := fmt.Sprintf("Move(%d, %d, %d, %d)", c.who, c.val, c.to, c.shares)
		refused(t, x, what, before, x.Move(c.who, c.val, c.to, c.shares), c.e)
	}
}

func TestP11MoveNeedsNoRoomForEntries(t *testing.T) {
	x := begin(t, free())
	x.Bond(0, 0, 300)
	x.Bond(0, 1, 300)
	for i := 0; i < 4; i++ {
		x.Unbond(0, 0, 1)
		x.Unbond(0, 1, 1)
	}
	same(t, "Move", x.Move(0, 0, 1, 296), api.OK)
	same(t, "delegations", x.See().Delegations, "[{Who:0 Val:1 Shares:592}]")
	same(t, "entries", len(x.See().Entries), 8)
}

// The walk is long enough to fill the entries, the set and the last block, and the same each time.
func TestP8ToP11WalkStaysSound(t *testing.T) {
	x := begin(t, free())
	seed := 7
	pick := func(n int) int {
		seed = (seed*1103515245 + 12345) % (1 << 31)
		return seed / 65536 % n
	}
	seen := [16]int{}
	for i := 0; i < 8000; i++ {
		who, val, to, n := pick(4), pick(6), pick(6), pick(400)
		e := api.OK
		switch pick(8) {
		case 0, 1:
			e = x.Bond(who, val, n)
		case 2, 3, 4:
			e = x.Unbond(who, val, n/8)
		case 5:
			e = x.Move(who, val, to, n)
		case 6:
			e = x.Send(2, who, n)
		default:
			e = x.Block()
		}
		seen[e]++
		sound(t, fmt.Sprintf("call %d", i), x.See(), 502000)
	}
	for _, e := range []api.Errno{api.OK, api.ErrAccount, api.ErrValidator, api.ErrFunds, api.ErrAmount, api.ErrShares, api.ErrFull} {
		if seen[e] == 0 {
			t.Errorf("the walk never met error %d", e)
		}
	}
}
