package staking_test

import (
	"fmt"
	"testing"

	"staking/api"
	"staking/staking"
)

func TestP15Example(t *testing.T) {
	x := atTwo(t)
	a, b := due(t, x, 1, 0, 12, 13), due(t, x, 0, 0, 3, 4)
	same(t, "Slash(0, 0, 50)", x.Slash(0, 0, 50), api.OK)
	want := api.View{
		Height: 2, Balances: []int{880, 690}, Pool: 210, Loose: 200,
		Validators:  []api.Validator{{Owner: 0, Rate: 10, Tokens: 200, Shares: 400, Commission: 2, Outstanding: 20, Jailed: true}},
		Delegations: []api.Delegation{{Who: 0, Val: 0, Shares: 100}, {Who: 1, Val: 0, Shares: 300}},
	}
	same(t, "See behind Slash", x.See(), want)
	same(t, "Dues behind Slash", fmt.Sprint(due(t, x, 1, 0, 12, 13), due(t, x, 0, 0, 3, 4)), fmt.Sprint(a, b))
	same(t, "Bond(1, 0, 50)", x.Bond(1, 0, 50), api.OK)
	want.Balances[1], want.Fees, want.Loose = 630+a, 10, 250
	want.Validators[0].Tokens, want.Validators[0].Shares, want.Validators[0].Outstanding = 250, 500, 20-a
	want.Delegations[1].Shares = 400
	same(t, "See behind Bond", x.See(), want)
	same(t, "Unbond(1, 0, 3)", x.Unbond(1, 0, 3), api.OK)
	same(t, "entries", x.See().Entries, "[{Who:1 Val:0 Made:2 Amount:1}]")
	before := x.See()
	blocks(t, x, 1)
	same(t, "balance and entries a block later", fmt.Sprint(x.See().Balances[1], len(x.See().Entries)), fmt.Sprint(before.Balances[1], 1))
	blocks(t, x, 1)
	same(t, "balance and entries 2 blocks later", fmt.Sprint(x.See().Balances[1], len(x.See().Entries)), fmt.Sprint(before.Balances[1]+1, 0))
}

func TestP15WhatIsLost(t *testing.T) {
	for _, c := range []struct{ tokens, percent, lost int }{
		{0, 1, 0}, {0, 100, 0}, {1, 1, 0}, {1, 99, 0}, {1, 100, 1}, {2, 50, 1}, {3, 50, 1}, {3, 67, 2}, {99, 1, 0}, {100, 1, 1}, {199, 1, 1}, {200, 1, 2},
		{7, 50, 3}, {4, 25, 1}, {101, 99, 99}, {400, 50, 200}, {999999, 99, 989999}, {999999, 100, 999999}, {1000000, 1, 10000}, {1000000, 100, 1000000},
	} {
		what := fmt.Sprintf("of %d tokens Slash by %d", c.tokens, c.percent)
		x := begin(t, api.Genesis{Balances: []int{1000000}, Owners: []int{0, 0}, Rates: []int{7, 8}, Top: 2, Mature: 1})
		x.Bond(0, 1, c.tokens)
		x.Block()
		same(t, what, x.Slash(1, 1, c.percent), api.OK)
		v := x.See()
		same(t, "validator behind "+what, v.Validators[1], api.Validator{Rate: 8, Tokens: c.tokens - c.lost, Shares: c.tokens, Jailed: true})
		same(t, "another validator behind "+what, v.Validators[0], api.Validator{Rate: 7})
		same(t, "balances, pool, Bonded, Loose behind "+what, fmt.Sprint(v.Balances, v.Pool, v.Bonded, v.Loose), fmt.Sprint([]int{1000000 - c.tokens}, c.lost, 0, c.tokens-c.lost))
		sound(t, what, v, 1000000)
	}
}

func TestP15Refusals(t *testing.T) {
	x := begin(t, costly())
	x.Bond(1, 0, 100)
	x.Bond(2, 3, 100)
	x.Unbond(2, 3, 50)
	blocks(t, x, 1)
	before := x.See()
	for _, c := range []struct {
		val, height, percent int
		e                    api.Errno
	}{
		{4, 0, 50, api.ErrValidator}, {-1, 0, 50, api.ErrValidator}, {least, 0, 50, api.ErrValidator}, {greatest, 0, 50, api.ErrValidator},
		{4, -1, 0, api.ErrValidator}, {4, 2, 50, api.ErrValidator}, {-1, 0, 101, api.ErrValidator},
		{0, -1, 50, api.ErrHeight}, {0, 2, 50, api.ErrHeight}, {3, least, 50, api.ErrHeight}, {3, greatest, 50, api.ErrHeight},
		{0, -1, 0, api.ErrHeight}, {0, 2, 101, api.ErrHeight},
		{0, 0, 0, api.ErrPart}, {0, 1, 101, api.ErrPart}, {3, 1, -1, api.ErrPart}, {3, 0, least, api.ErrPart}, {3, 0, greatest, api.ErrPart},
	} {
		refused(t, x, fmt.Sprintf("Slash(%d, %d, %d)", c.val, c.height, c.percent), before, x.Slash(c.val, c.height, c.percent), c.e)
	}
	same(t, "Slash at the height of now", x.Slash(0, 1, 1), api.OK)
	same(t, "Slash at the first height", x.Slash(3, 0, 100), api.OK)
}

// Slash is the chain's: it costs nobody a fee, and what was paid in this block already stays among the fees.
func TestP5SlashCostsNoFee(t *testing.T) {
	x := atTwo(t)
	fees(x, 1)
	before := x.See()
	same(t, "Slash", x.Slash(0, 0, 10), api.OK)
	v := x.See()
	same(t, "balances and fees", fmt.Sprint(v.Balances, v.Fees), fmt.Sprint(before.Balances, 10))
}

// entered has at validator 0 entries of the heights 0 to 3, and at validator 1 one of the height 2.
func entered(t *testing.T) *staking.Engine {
	t.Helper()
	g := free()
	g.Mature = 5
	x := begin(t, g)
	x.Bond(0, 0, 1000)
	x.Bond(1, 0, 1000)
	x.Bond(2, 1, 1000)
	x.Unbond(0, 0, 199)
	blocks(t, x, 1)
	x.Unbond(1, 0, 99)
	blocks(t, x, 1)
	x.Unbond(0, 0, 1)
	x.Unbond(2, 1, 300)
	x.Unbond(0, 0, 100)
	blocks(t, x, 1)
	x.Unbond(1, 0, 7)
	same(t, "entries", x.See().Entries, "[{Who:0 Val:0 Made:0 Amount:199} {Who:1 Val:0 Made:1 Amount:99} {Who:0 Val:0 Made:2 Amount:1} {Who:2 Val:1 Made:2 Amount:300} {Who:0 Val:0 Made:2 Amount:100} {Who:1 Val:0 Made:3 Amount:7}]")
	return x
}

func TestP15EntriesOfThatHeightOrLaterLose(t *testing.T) {
	for _, c := range []struct {
		val, height, percent int
		amounts              [6]int
	}{
		{0, 0, 1, [6]int{198, 99, 1, 300, 99, 7}},
		{0, 0, 50, [6]int{100, 50, 1, 300, 50, 4}},
		{0, 0, 99, [6]int{2, 1, 1, 300, 1, 1}},
		{0, 0, 100, [6]int{0, 0, 0, 300, 0, 0}},
		{0, 1, 50, [6]int{199, 50, 1, 300, 50, 4}},
		{0, 2, 50, [6]int{199, 99, 1, 300, 50, 4}},
		{0, 2, 100, [6]int{199, 99, 0, 300, 0, 0}},
		{0, 3, 50, [6]int{199, 99, 1, 300, 100, 4}},
		{0, 3, 100, [6]int{199, 99, 1, 300, 100, 0}},
		{1, 2, 33, [6]int{199, 99, 1, 201, 100, 7}},
		{1, 3, 33, [6]int{199, 99, 1, 300, 100, 7}},
		{2, 0, 100, [6]int{199, 99, 1, 300, 100, 7}},
	} {
		what := fmt.Sprintf("Slash(%d, %d, %d)", c.val, c.height, c.percent)
		x := entered(t)
		want := x.See()
		same(t, what, x.Slash(c.val, c.height, c.percent), api.OK)
		k := &want.Validators[c.val]
		cut := k.Tokens * c.percent / 100
		k.Tokens -= cut
		want.Pool = cut
		if k.InSet {
			want.Bonded -= k.Tokens + cut
			want.Loose += k.Tokens
		}
		k.Jailed, k.InSet = true, false
		for i, n := range c.amounts {
			want.Pool += want.Entries[i].Amount - n
			want.Loose -= want.Entries[i].Amount - n
			want.Entries[i].Amount = n
		}
		same(t, "See behind "+what, x.See(), want)
	}
}

func TestP15EntriesThatHaveLostAllStayTillTheyArePaid(t *testing.T) {
	g := free()
	g.Mature = 2
	x := begin(t, g)
	x.Bond(0, 0, 500)
	for i := 0; i < 4; i++ {
		same(t, "Unbond", x.Unbond(0, 0, 10), api.OK)
	}
	same(t, "Slash", x.Slash(0, 0, 100), api.OK)
	same(t, "entries", x.See().Entries, "[{Who:0 Val:0 Made:0 Amount:0} {Who:0 Val:0 Made:0 Amount:0} {Who:0 Val:0 Made:0 Amount:0} {Who:0 Val:0 Made:0 Amount:0}]")
	same(t, "Unbond beside 4 entries of nothing", x.Unbond(0, 0, 1), api.ErrFull)
	blocks(t, x, 1)
	same(t, "entries a block later", len(x.See().Entries), 4)
	blocks(t, x, 1)
	same(t, "balance and entries when they are paid", fmt.Sprint(x.See().Balances[0], x.See().Entries), "500 []")
	same(t, "Unbond then", x.Unbond(0, 0, 1), api.OK)
}

// What an entry has left is paid, and not what it began with; one that is paid already is not slashed.
func TestP15EntriesArePaidWhatTheyHaveLeft(t *testing.T) {
	x := entered(t)
	same(t, "Slash", x.Slash(0, 1, 50), api.OK)
	pool := x.See().Pool
	for i, want := range []string{"[0 0 499000]", "[199 0 499000]", "[199 50 499000]", "[250 50 499300]", "[250 54 499300]"} {
		blocks(t, x, 1)
		same(t, fmt.Sprintf("balances %d blocks later", i+1), x.See().Balances, want)
	}
	same(t, "entries", x.See().Entries, "[]")
	tokens := x.See().Validators[0].Tokens
	same(t, "Slash", x.Slash(0, 0, 100), api.OK)
	same(t, "balances and pool", fmt.Sprint(x.See().Balances, x.See().Pool), fmt.Sprint([]int{250, 54, 499300}, pool+tokens))
}

func TestP15MovesAreNotFollowed(t *testing.T) {
	x := begin(t, free())
	x.Bond(0, 0, 400)
	x.Bond(1, 1, 100)
	same(t, "Move", x.Move(0, 0, 1, 300), api.OK)
	same(t, "Slash", x.Slash(0, 0, 50), api.OK)
	v := x.See()
	same(t, "val", v.Validators[0], api.Validator{Owner: 0, Rate: 10, Tokens: 50, Shares: 100, Jailed: true})
	same(t, "to", v.Validators[1], api.Validator{Owner: 1, Rate: 0, Tokens: 400, Shares: 400})
	same(t, "pool", v.Pool, 50)
}

func TestP15SlashedAgain(t *testing.T) {
	x := begin(t, free())
	x.Bond(0, 0, 1000)
	x.Unbond(0, 0, 200)
	for i, want := range []string{"400 100 500", "200 50 750", "100 25 875", "50 13 937", "25 7 968", "13 4 983"} {
		same(t, "Slash", x.Slash(0, 0, 50), api.OK)
		v := x.See()
		same(t, fmt.Sprintf("tokens, entry, pool behind %d", i+1), fmt.Sprint(v.Validators[0].Tokens, v.Entries[0].Amount, v.Pool), want)
		same(t, "shares and jail", fmt.Sprint(v.Validators[0].Shares, v.Validators[0].Jailed, v.Validators[0].InSet), "800 true false")
	}
	same(t, "Slash of all", x.Slash(0, 0, 100), api.OK)
	same(t, "Slash of nothing", x.Slash(0, 0, 100), api.OK)
	v := x.See()
	same(t, "tokens, entry, pool", fmt.Sprint(v.Validators[0].Tokens, v.Entries[0].Amount, v.Pool), "0 0 1000")
}

func TestP15OneWithoutTokensIsJailedToo(t *testing.T) {
	x := begin(t, free())
	want := x.See()
	same(t, "Slash", x.Slash(3, 0, 1), api.OK)
	want.Validators[3].Jailed = true
	same(t, "See", x.See(), want)
}

func TestP8AndP15FeesOfTheBlockGoToTheRestOfTheSet(t *testing.T) {
	x := begin(t, costly())
	x.Bond(0, 0, 100)
	x.Bond(1, 1, 100)
	x.Bond(2, 2, 100)
	x.Block()
	same(t, "the set", set(x), "1110")
	fees(x, 6)
	same(t, "Slash", x.Slash(1, 0, 10), api.OK)
	v := x.See()
	same(t, "the set behind Slash", set(x), "1010")
	same(t, "pool, Bonded and Loose", fmt.Sprint(v.Pool, v.Bonded, v.Loose), "31 200 90")
	x.Block() // of 42, 21 each
	v = x.See()
	same(t, "outstanding", fmt.Sprint(v.Validators[0].Outstanding, v.Validators[1].Outstanding, v.Validators[2].Outstanding), "21 0 21")
	same(t, "pool", v.Pool, 31)
	due(t, x, 1, 1, 0, 0)
}

func TestP8NobodyJailedIsChosen(t *testing.T) {
	x := begin(t, free())
	for val, n := range []int{500, 400, 300, 200, 100} {
		x.Bond(2, val, n)
	}
	x.Block()
	same(t, "the set", set(x), "11000")
	same(t, "Slash", x.Slash(0, 0, 1), api.OK)
	same(t, "the set till the Block", set(x), "01000")
	x.Block()
	same(t, "the set of those that are not jailed", set(x), "01100")
	for _, val := range []int{1, 2, 3} {
		x.Slash(val, 0, 1)
	}
	x.Bond(2, 0, 5000)
	x.Block()
	same(t, "the set of the one that is not jailed", set(x), "00001")
	x.Slash(4, 0, 1)
	blocks(t, x, 2)
	same(t, "the set where all are jailed", set(x), "00000")
	same(t, "Bonded", x.See().Bonded, 0)
}

func TestP8SetGoesByTheTokensThatAreLeft(t *testing.T) {
	x := begin(t, free())
	for val, n := range []int{500, 400, 300} {
		x.Bond(2, val, n)
	}
	x.Slash(0, 0, 40)
	same(t, "Free", x.Free(0, 0), api.OK)
	x.Block()
	same(t, "the set of 300, 400 and 300 tokens", set(x), "11000")
	x.Slash(0, 0, 1)
	same(t, "Free", x.Free(0, 0), api.OK)
	x.Block()
	same(t, "the set of 297, 400 and 300 tokens", set(x), "01100")
}

func TestP8OneThatLostAllTokensIsNotChosenEvenIfItIsFree(t *testing.T) {
	x := begin(t, free())
	x.Bond(2, 0, 500)
	x.Bond(2, 1, 5)
	x.Slash(0, 0, 100)
	same(t, "Free", x.Free(0, 0), api.OK)
	x.Block()
	same(t, "the set", set(x), "01000")
	x.Unbond(2, 0, 500)
	x.Bond(2, 0, 1)
	x.Block()
	same(t, "the set when it has tokens again", set(x), "11000")
}

func TestP16Free(t *testing.T) {
	x := begin(t, costly())
	x.Bond(1, 0, 100)
	x.Bond(1, 3, 50)
	x.Unbond(1, 0, 10)
	x.Block()
	x.Slash(0, 0, 10)
	x.Slash(3, 0, 10)
	want := x.See()
	same(t, "Free", x.Free(0, 0), api.OK)
	want.Balances[0] -= 7
	want.Fees += 7
	want.Validators[0].Jailed = false
	same(t, "See behind Free", x.See(), want)
	same(t, "the set till the Block", set(x), "0000")
	x.Block()
	same(t, "the set behind a Block", set(x), "1000")
	same(t, "Slash once more", x.Slash(0, 2, 10), api.OK)
	x.Block()
	same(t, "the set behind another Slash", set(x), "0000")
	same(t, "Free once more", x.Free(0, 0), api.OK)
	x.Block()
	same(t, "the set behind another Free", set(x), "1000")
}

func TestP16Refusals(t *testing.T) {
	g := costly()
	g.Fee = 0
	x := begin(t, g)
	x.Bond(1, 0, 100)
	x.Block()
	x.Slash(0, 0, 10)
	x.Slash(2, 0, 10)
	before := x.See()
	for _, c := range []struct {
		who, val int
		e        api.Errno
	}{
		{3, 0, api.ErrAccount}, {-1, 9, api.ErrAccount}, {least, 0, api.ErrAccount}, {greatest, 0, api.ErrAccount},
		{0, 4, api.ErrValidator}, {0, -1, api.ErrValidator}, {1, least, api.ErrValidator}, {1, greatest, api.ErrValidator},
		{1, 0, api.ErrOwner}, {2, 0, api.ErrOwner}, {0, 2, api.ErrOwner}, {1, 3, api.ErrOwner}, {0, 1, api.ErrOwner},
		{0, 3, api.ErrJail}, {1, 1, api.ErrJail},
	} {
		refused(t, x, fmt.Sprintf("Free(%d, %d)", c.who, c.val), before, x.Free(c.who, c.val), c.e)
	}
	same(t, "Free", x.Free(0, 0), api.OK)
	before = x.See()
	refused(t, x, "Free of one that is free again", before, x.Free(0, 0), api.ErrJail)
	x.Block()
	before = x.See()
	refused(t, x, "Free of one in the set", before, x.Free(0, 0), api.ErrJail)
}

// Free of what is refused costs the fee, and who cannot pay it frees nobody.
func TestP5FreeIsAMessage(t *testing.T) {
	x := atTwo(t)
	x.Slash(0, 0, 10)
	before := x.See()
	for _, c := range []struct {
		who, val int
		e        api.Errno
	}{{1, 0, api.ErrOwner}, {1, 1, api.ErrValidator}, {0, 1, api.ErrValidator}, {0, 0, api.OK}, {0, 0, api.ErrJail}} {
		same(t, fmt.Sprintf("Free(%d, %d)", c.who, c.val), x.Free(c.who, c.val), c.e)
		before.Balances[c.who] -= 10
		before.Fees += 10
		before.Validators[0].Jailed = before.Validators[0].Jailed && c.e != api.OK
		same(t, fmt.Sprintf("See behind Free(%d, %d)", c.who, c.val), x.See(), before)
	}
	x.Slash(0, 0, 10)
	x.Send(0, 1, x.See().Balances[0]-19)
	before = x.See()
	same(t, "balance", before.Balances[0], 9)
	refused(t, x, "Free without the fee", before, x.Free(0, 0), api.ErrFunds)
	x.Send(1, 0, 1)
	same(t, "Free with just the fee", x.Free(0, 0), api.OK)
	same(t, "balance", x.See().Balances[0], 0)
}

func TestP9AJailedValidatorTakesTokens(t *testing.T) {
	x := begin(t, free())
	x.Slash(0, 0, 50)
	same(t, "Bond to one that had none", x.Bond(0, 0, 400), api.OK)
	x.Slash(0, 0, 50)
	same(t, "Bond", x.Bond(1, 0, 50), api.OK)
	x.Bond(2, 1, 30)
	same(t, "Move to it", x.Move(2, 1, 0, 5), api.OK)
	v := x.See()
	same(t, "validator", v.Validators[0], api.Validator{Rate: 10, Tokens: 255, Shares: 510, Jailed: true})
	same(t, "delegations", v.Delegations, "[{Who:0 Val:0 Shares:400} {Who:1 Val:0 Shares:100} {Who:2 Val:0 Shares:10} {Who:2 Val:1 Shares:25}]")
	same(t, "Move from it", x.Move(0, 0, 1, 5), api.OK)
	same(t, "Unbond from it", x.Unbond(0, 0, 5), api.OK)
	v = x.See()
	same(t, "tokens", fmt.Sprint(v.Validators[0].Tokens, v.Validators[1].Tokens, v.Entries[0].Amount), "251 27 2")
}

func TestP9ToP11OneThatLostAllTokens(t *testing.T) {
	x := begin(t, costly())
	x.Bond(1, 0, 100)
	x.Bond(2, 0, 100)
	x.Bond(2, 1, 100)
	x.Block()
	fees(x, 6)
	x.Block() // of 42: 28 and 14, of them 9 and 7 commission
	a, b := due(t, x, 1, 0, 8, 9), due(t, x, 2, 0, 8, 9)
	same(t, "Slash", x.Slash(0, 0, 100), api.OK)
	same(t, "Dues", fmt.Sprint(due(t, x, 1, 0, 8, 9), due(t, x, 2, 0, 8, 9)), fmt.Sprint(a, b))
	before := x.See()
	same(t, "Bond", x.Bond(1, 0, 5), api.ErrDead)
	same(t, "Move to it", x.Move(2, 1, 0, 5), api.ErrDead)
	same(t, "Move from it", x.Move(2, 0, 1, 100), api.ErrSmall)
	before.Balances[1] -= 7
	before.Balances[2] -= 14
	before.Fees += 21
	same(t, "See behind what was refused", x.See(), before)
	same(t, "Unbond of all of one", x.Unbond(1, 0, 100), api.OK)
	v := x.See()
	same(t, "validator", v.Validators[0], api.Validator{Rate: 33, Shares: 100, Commission: 9, Outstanding: 28 - a, Jailed: true})
	same(t, "balance, pool and entries", fmt.Sprint(v.Balances[1], v.Pool, v.Entries), fmt.Sprint(before.Balances[1]-7+a, before.Pool, []int{}))
	same(t, "Bond", x.Bond(1, 0, 5), api.ErrDead)
	same(t, "Unbond of the last share", x.Unbond(2, 0, 100), api.OK)
	v = x.See()
	same(t, "validator", v.Validators[0], api.Validator{Rate: 33, Commission: 9, Outstanding: 9, Jailed: true})
	same(t, "balance, pool and entries", fmt.Sprint(v.Balances[2], v.Pool, v.Entries), fmt.Sprint(before.Balances[2]-7+b, before.Pool+19-a-b, []int{}))
	same(t, "Bond", x.Bond(1, 0, 5), api.OK)
	same(t, "validator", x.See().Validators[0], api.Validator{Rate: 33, Tokens: 5, Shares: 5, Commission: 9, Outstanding: 9, Jailed: true})
	due(t, x, 1, 0, 0, 0)
}

func TestP9SharesThatSlashesMakeCheap(t *testing.T) {
	x := begin(t, api.Genesis{Balances: []int{500000, 500000}, Owners: []int{0}, Rates: []int{0}, Top: 1, Mature: 1})
	x.Bond(0, 0, 7)
	x.Slash(0, 0, 50)
	x.Slash(0, 0, 25)
	same(t, "validator", x.See().Validators[0], api.Validator{Tokens: 3, Shares: 7, Jailed: true})
	same(t, "Bond of 1", x.Bond(1, 0, 1), api.OK)
	same(t, "validator", x.See().Validators[0], api.Validator{Tokens: 4, Shares: 9, Jailed: true})
	x.Slash(0, 0, 99)
	before := x.See()
	same(t, "tokens", before.Validators[0].Tokens, 1)
	refused(t, x, "Bond of one too many", before, x.Bond(1, 0, 111111), api.ErrFull)
	same(t, "Bond of as many as may be", x.Bond(1, 0, 111110), api.OK)
	before = x.See()
	same(t, "validator", before.Validators[0], api.Validator{Tokens: 111111, Shares: 999999, Jailed: true})
	refused(t, x, "Bond of 1", before, x.Bond(1, 0, 1), api.ErrFull)
}

func TestP12SlashesChangeNothingOfWhatIsDue(t *testing.T) {
	for _, percent := range []int{1, 50, 99, 100} {
		x := atTwo(t)
		a, b := due(t, x, 1, 0, 12, 13), due(t, x, 0, 0, 3, 4)
		same(t, "Slash", x.Slash(0, 0, percent), api.OK)
		what := fmt.Sprintf("Dues behind Slash by %d", percent)
		same(t, what, fmt.Sprint(due(t, x, 1, 0, 12, 13), due(t, x, 0, 0, 3, 4)), fmt.Sprint(a, b))
		fees(x, 2)
		x.Block()
		same(t, what+" and a Block", fmt.Sprint(due(t, x, 1, 0, 12, 13), due(t, x, 0, 0, 3, 4)), fmt.Sprint(a, b))
		before := x.See()
		same(t, "Withdraw", x.Withdraw(1, 0), api.OK)
		same(t, "Collect", x.Collect(0, 0), api.OK)
		v := x.See()
		same(t, "balances", v.Balances, []int{before.Balances[0] - 10 + 2, before.Balances[1] - 10 + a})
		same(t, "outstanding", v.Validators[0].Outstanding, 18-a)
	}
}

// Behind a slash the fees go by the tokens that are left, and among the shares as before.
func TestP8AndP12FeesBehindASlash(t *testing.T) {
	x := begin(t, costly())
	x.Bond(1, 0, 300)
	x.Bond(2, 0, 100)
	x.Bond(2, 2, 100)
	x.Slash(0, 0, 50)
	x.Free(0, 0)
	x.Block()
	same(t, "the set", set(x), "1010")
	fees(x, 3)
	x.Block() // of 21, 300 tokens: 14 and 7, of the 14 4 commission
	v := x.See()
	same(t, "outstanding", fmt.Sprint(v.Validators[0].Outstanding, v.Validators[2].Outstanding), "14 7")
	due(t, x, 1, 0, 6, 7)
	due(t, x, 2, 0, 1, 2)
	due(t, x, 2, 2, 6, 7)
}
