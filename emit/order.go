package emit

import (
	"warpbeam/api"
)

// use is what a field of an instruction stands for.
type use int

const (
	none     use = iota // nothing: it is 0
	number              // the number of a register for numbers
	vector              // the number of a register for vectors
	constant            // a number by itself
	divisor             // a number to divide by
	target              // the number of an instruction
	array               // the number of an array
	width               // how many values vectors have
)

// kind is the word of an instruction, and the uses of A, B, C and K.
type kind struct {
	word string
	uses [4]use
}

// kinds are those of all instructions, by Do.
var kinds = [...]kind{
	api.DoHalt:  {"halt", [4]use{none, none, none, none}},
	api.DoSet:   {"set", [4]use{number, none, none, constant}},
	api.DoAdd:   {"add", [4]use{number, number, number, none}},
	api.DoSub:   {"sub", [4]use{number, number, number, none}},
	api.DoMul:   {"mul", [4]use{number, number, none, constant}},
	api.DoDiv:   {"div", [4]use{number, number, none, divisor}},
	api.DoJump:  {"jump", [4]use{none, none, none, target}},
	api.DoLess:  {"less", [4]use{number, number, none, target}},
	api.DoLoad:  {"load", [4]use{vector, number, number, array}},
	api.DoStore: {"store", [4]use{vector, number, number, array}},
	api.DoTake:  {"take", [4]use{vector, number, none, none}},
	api.DoPlus:  {"plus", [4]use{vector, vector, vector, none}},
	api.DoMinus: {"minus", [4]use{vector, vector, vector, none}},
	api.DoTimes: {"times", [4]use{vector, vector, vector, none}},
	api.DoWide:  {"wide", [4]use{none, none, none, width}},
	api.DoCount: {"count", [4]use{vector, number, number, none}},
}

// isKind reports whether there is such a Do.
func isKind(do int) bool { return do >= api.DoHalt && do < len(kinds) }

// fieldsOf are the fields of an instruction, in the order of the uses of its kind.
func fieldsOf(o api.Order) [4]int { return [4]int{o.A, o.B, o.C, o.K} }

// orderOf is the instruction with some fields.
func orderOf(do int, fields [4]int) api.Order {
	return api.Order{Do: do, A: fields[0], B: fields[1], C: fields[2], K: fields[3]}
}

// checkOrder says what is wrong with an instruction of code with so many ones, for so many arrays.
func checkOrder(o api.Order, orders, arrays int) api.Errno {
	if !isKind(o.Do) {
		return api.ErrKind
	}
	uses := kinds[o.Do].uses
	for i, n := range fieldsOf(o) {
		if uses[i] == none && n != 0 {
			return api.ErrForm
		}
	}
	for i, n := range fieldsOf(o) {
		if low, high := uses[i].limits(orders, arrays); n < low || n > high {
			return api.ErrArg
		}
	}
	return api.OK
}

// limits are the least and the greatest number that a field can have.
func (u use) limits(orders, arrays int) (int, int) {
	switch u {
	case number:
		return 0, api.MaxRegs - 1
	case vector:
		return 0, api.MaxVecs - 1
	case constant:
		return -api.MaxConst, api.MaxConst
	case divisor:
		return 1, api.MaxDiv
	case target:
		return 0, orders - 1
	case array:
		// There are no arrays with numbers below 0, however many are told.
		return 0, max(arrays, 0) - 1
	case width:
		return 1, api.MaxWide
	}
	return 0, 0
}
