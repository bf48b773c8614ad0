package lens

import "cadence/api"

// byOp is a thing of each Op, by its number.
type byOp[T any] [api.LSeq + 1]T

// of tells an Op's thing; false: there is no such Op.
func (l byOp[T]) of(op int) (T, bool) {
	if op < api.LId || op > api.LSeq {
		var none T
		return none, false
	}
	return l[op], true
}
