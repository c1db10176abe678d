package staking

// shareOutFees gives all of the fees to the pool: nobody is bonded yet, so no validator is in the set and T of P8 is 0.
func (x *Engine) shareOutFees() {
	x.pool += x.fees
	x.fees = 0
}
