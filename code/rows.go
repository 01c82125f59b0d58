package code

import (
	"math"

	"lexicon/api"
)

// A part is what A or B of an instruction is.
type part int

const (
	nothing part = iota
	aConstant
	aName
	aFunction // but the first one
	anInstruction
	aLocal
	aCell
	anOperator
	aComparison
	aLength
	aPlace // on the stack, from its top on
	aNumberOfTargets
	aNumberOfArguments
	aChoice
)

// bounds are of a part by itself: whether what an index tells is there hangs
// on the program.
func (p part) bounds() (least, most int) {
	switch p {
	case aConstant, aName, anInstruction, aLocal, aCell:
		return 0, math.MaxInt
	case aFunction:
		return 1, math.MaxInt
	case anOperator:
		return api.BinAdd, api.BinXor
	case aComparison:
		return api.CompEq, api.CompIsNot
	case aLength:
		return 0, api.MaxItems
	case aPlace:
		return 1, api.MaxStack
	case aNumberOfTargets:
		return 1, api.MaxNames
	case aNumberOfArguments:
		return 0, api.MaxNames
	case aChoice:
		return 0, 1
	}
	return 0, 0
}

func (p part) allows(n int) bool {
	least, most := p.bounds()
	return least <= n && n <= most
}

// A row is what the chapter's table says of an instruction.
type row struct {
	name  string // empty: there is no such row
	a     part
	b     part
	takes int
	gives int
	there int // what it gives at A, where A is an instruction
}

// rowOf finds an instruction's row. A and B are not looked at: where they are
// not of the row, takes and gives say nothing.
func rowOf(i api.Instr) row {
	switch {
	case i.Op < api.OpLoadLocal:
		return stackRow(i)
	case i.Op < api.OpLoadIndex:
		return nameRow(i)
	case i.Op < api.OpJump, i.Op == api.OpKeyword:
		return valueRow(i)
	}
	return wayRow(i)
}

// stackRow is of those that lay constants and turn the stack.
func stackRow(i api.Instr) row {
	switch i.Op {
	case api.OpConst:
		return row{name: "const", a: aConstant, gives: 1}
	case api.OpPop:
		return row{name: "pop", takes: 1}
	case api.OpDup:
		return row{name: "dup", takes: 1, gives: 2}
	case api.OpDup2:
		return row{name: "dup2", takes: 2, gives: 4}
	case api.OpSwap:
		return row{name: "swap", takes: 2, gives: 2}
	case api.OpTurn:
		return row{name: "turn", takes: 3, gives: 3}
	}
	return row{}
}

// nameRow is of those that work on what has a name.
func nameRow(i api.Instr) row {
	switch i.Op {
	case api.OpLoadLocal:
		return row{name: "loadlocal", a: aLocal, gives: 1}
	case api.OpStoreLocal:
		return row{name: "storelocal", a: aLocal, takes: 1}
	case api.OpDelLocal:
		return row{name: "dellocal", a: aLocal}
	case api.OpLoadCell:
		return row{name: "loadcell", a: aCell, gives: 1}
	case api.OpStoreCell:
		return row{name: "storecell", a: aCell, takes: 1}
	case api.OpDelCell:
		return row{name: "delcell", a: aCell}
	case api.OpPushCell:
		return row{name: "pushcell", a: aCell, gives: 1}
	case api.OpLoadGlobal:
		return row{name: "loadglobal", a: aName, gives: 1}
	case api.OpSetGlobal:
		return row{name: "setglobal", a: aName, takes: 1}
	case api.OpDelGlobal:
		return row{name: "delglobal", a: aName}
	case api.OpLoadName:
		return row{name: "loadname", a: aName, gives: 1}
	case api.OpSetName:
		return row{name: "setname", a: aName, takes: 1}
	case api.OpDelName:
		return row{name: "delname", a: aName}
	case api.OpLoadAttr:
		return row{name: "loadattr", a: aName, takes: 1, gives: 1}
	case api.OpSetAttr:
		return row{name: "setattr", a: aName, takes: 2}
	case api.OpDelAttr:
		return row{name: "delattr", a: aName, takes: 1}
	}
	return row{}
}

// valueRow is of those that make values of others, or turn one.
func valueRow(i api.Instr) row {
	switch i.Op {
	case api.OpLoadIndex:
		return row{name: "loadindex", takes: 2, gives: 1}
	case api.OpSetIndex:
		return row{name: "setindex", takes: 3}
	case api.OpDelIndex:
		return row{name: "delindex", takes: 2}
	case api.OpNegative:
		return row{name: "negative", takes: 1, gives: 1}
	case api.OpNot:
		return row{name: "not", takes: 1, gives: 1}
	case api.OpBinary:
		return row{name: "binary", a: anOperator, takes: 2, gives: 1}
	case api.OpCompare:
		return row{name: "compare", a: aComparison, takes: 2, gives: 1}
	case api.OpTuple:
		return row{name: "tuple", a: aLength, takes: i.A, gives: 1}
	case api.OpList:
		return row{name: "list", a: aLength, takes: i.A, gives: 1}
	case api.OpDict:
		return row{name: "dict", gives: 1}
	case api.OpSet:
		return row{name: "set", gives: 1}
	case api.OpAddPair:
		return row{name: "addpair", a: aPlace, takes: 2}
	case api.OpAddItem:
		return row{name: "additem", a: aPlace, takes: 1}
	case api.OpAppend:
		return row{name: "append", a: aPlace, takes: 1}
	case api.OpMerge:
		return row{name: "merge", a: aPlace, takes: 1}
	case api.OpKeyword:
		return row{name: "keyword", a: aPlace, takes: 1}
	case api.OpUnpack:
		return row{name: "unpack", a: aNumberOfTargets, takes: 1, gives: i.A}
	}
	return row{}
}

// wayRow is of those that lead elsewhere, or leave or lay a function.
func wayRow(i api.Instr) row {
	switch i.Op {
	case api.OpJump:
		return row{name: "jump", a: anInstruction}
	case api.OpIf:
		return row{name: "if", a: anInstruction, takes: 1}
	case api.OpIfNot:
		return row{name: "ifnot", a: anInstruction, takes: 1}
	case api.OpOr:
		return row{name: "or", a: anInstruction, takes: 1, there: 1}
	case api.OpAnd:
		return row{name: "and", a: anInstruction, takes: 1, there: 1}
	case api.OpIter:
		return row{name: "iter", takes: 1, gives: 1}
	case api.OpNext:
		return row{name: "next", a: anInstruction, takes: 1, gives: 2}
	case api.OpCall:
		return row{name: "call", a: aNumberOfArguments, b: aChoice, takes: i.A + 1 + i.B, gives: 1}
	case api.OpReturn:
		return row{name: "return", takes: 1}
	case api.OpFunc:
		return row{name: "func", a: aFunction, b: aNumberOfArguments, takes: i.B, gives: 1}
	case api.OpClass:
		return row{name: "class", a: aName, b: aChoice, takes: 1 + i.B, gives: 1}
	case api.OpTry:
		return row{name: "try", a: anInstruction, there: 1}
	case api.OpEndTry:
		return row{name: "endtry"}
	case api.OpMatch:
		return row{name: "match", takes: 2, gives: 1}
	case api.OpRaise:
		return row{name: "raise", takes: 1}
	}
	return row{}
}
