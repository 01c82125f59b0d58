package tree

import (
	"lexicon/api"
)

// A shape tells whether a node is as its row of the table says. Of the Kids it
// asks the kinds alone, and how many a Block or a Param has, where that hangs
// on what it stands in.
type shape func(n api.Node) bool

// shapeOf finds a kind's shape.
func shapeOf(kind int) shape {
	if kind < api.NodeName {
		return outerShape(kind)
	}
	return innerShape(kind)
}

// outerShape is of the table's first part, and of NodeNone.
func outerShape(kind int) shape {
	switch kind {
	case api.NodeNone, api.NodePass, api.NodeBreak, api.NodeContinue:
		return row(noText)
	case api.NodeModule:
		return row(noText, isBlock)
	case api.NodeBlock:
		return longRow(noText, isStatement)
	case api.NodeExpr:
		return row(noText, isExpression)
	case api.NodeAssign:
		return row(noText, IsTarget, isExpression)
	case api.NodeUnpack:
		return row(noText, isTargetList, isExpression)
	case api.NodeAugment:
		return row(isOperator, IsTarget, isExpression)
	case api.NodeDel:
		return row(noText, IsTarget)
	case api.NodeReturn, api.NodeRaise:
		return row(noText, orNone(isExpression))
	case api.NodeGlobal, api.NodeNonlocal:
		return longRow(noText, isNameNode, isNameNode)
	case api.NodeIf:
		return row(noText, isExpression, isInnerBlock, orNone(isInnerBlock))
	case api.NodeWhile:
		return row(noText, isExpression, isInnerBlock)
	case api.NodeFor:
		return row(noText, isTargets, isExpression, isInnerBlock)
	case api.NodeDef:
		return defShape
	case api.NodeParam:
		return paramShape
	case api.NodeClass:
		return row(IsName, orNone(isExpression), isInnerBlock)
	case api.NodeTry:
		return tryShape
	case api.NodeExcept:
		return exceptShape
	case api.NodeTargets:
		return longRow(noText, IsTarget, IsTarget, IsTarget)
	}
	return noShape
}

// innerShape is of the table's second part, from Name on.
func innerShape(kind int) shape {
	switch kind {
	case api.NodeName:
		return row(IsName)
	case api.NodeInt:
		return intShape
	case api.NodeStr:
		return row(isGood)
	case api.NodeConst:
		return row(isConstant)
	case api.NodeTuple, api.NodeList:
		return longRow(noText, isExpression)
	case api.NodeSet:
		return longRow(noText, isExpression, isExpression)
	case api.NodeDict:
		return longRow(noText, isItem)
	case api.NodePair, api.NodeOr, api.NodeAnd, api.NodeIndex:
		return row(noText, isExpression, isExpression)
	case api.NodeSpread, api.NodeNot, api.NodeNegative:
		return row(noText, isExpression)
	case api.NodeListComp, api.NodeSetComp:
		return longRow(noText, isExpression, isExpression, isTargets, isExpression)
	case api.NodeDictComp:
		return longRow(noText, isExpression, isPair, isTargets, isExpression)
	case api.NodeChoose:
		return row(noText, isExpression, isExpression, isExpression)
	case api.NodeCompare:
		return row(isComparison, isExpression, isExpression)
	case api.NodeBinary:
		return row(isOperator, isExpression, isExpression)
	case api.NodeCall:
		return callShape
	case api.NodeKeyword, api.NodeAttr:
		return row(IsName, isExpression)
	}
	return noShape
}

// row is the shape of a Text and of as many Kids as there are tests, each
// taken by its own.
func row(text func(string) bool, kids ...shape) shape {
	long := longRow(text, nil, kids...)
	return func(n api.Node) bool {
		return len(n.Kids) == len(kids) && long(n)
	}
}

// longRow is a row behind which more Kids may stand, each taken by more.
func longRow(text func(string) bool, more shape, kids ...shape) shape {
	return func(n api.Node) bool {
		if !text(n.Text) || !noNum(n) || len(n.Kids) < len(kids) {
			return false
		}
		for i, takes := range kids {
			if !takes(n.Kids[i]) {
				return false
			}
		}
		return len(passOver(n.Kids[len(kids):], more)) == 0
	}
}

// passOver is what is left of nodes from the first one on that is not taken.
func passOver(list []api.Node, takes shape) []api.Node {
	for len(list) > 0 && takes(list[0]) {
		list = list[1:]
	}
	return list
}

func noShape(n api.Node) bool { return false }

func defShape(n api.Node) bool {
	last := len(n.Kids) - 1
	return IsName(n.Text) && noNum(n) && last >= 0 &&
		paramsFit(n.Kids[:last]) && isInnerBlock(n.Kids[last])
}

// paramsFit asks what hangs on the order of a Def's Params.
func paramsFit(list []api.Node) bool {
	given := false // whether one with a default stands ahead
	for i, n := range list {
		switch {
		case n.Kind != api.NodeParam:
			return false
		case len(n.Kids) == 0:
			if i < len(list)-1 {
				return false
			}
		case n.Kids[0].Kind != api.NodeNone:
			given = true
		case given:
			return false
		}
	}
	return true
}

// paramShape takes one without a kid, too: whether it may stand there is for
// the Def to say.
func paramShape(n api.Node) bool {
	return row(IsName)(n) || row(IsName, orNone(isExpression))(n)
}

func tryShape(n api.Node) bool {
	if !longRow(noText, isExcept, isInnerBlock, isExcept)(n) {
		return false
	}
	for _, except := range n.Kids[1 : len(n.Kids)-1] {
		if takesAny(except) {
			return false
		}
	}
	return true
}

func exceptShape(n api.Node) bool {
	return row(isNameOrNone, orNone(isExpression), isInnerBlock)(n) &&
		(n.Text == "" || !takesAny(n))
}

// takesAny tells whether an Except has no class.
func takesAny(n api.Node) bool {
	return len(n.Kids) > 0 && isNone(n.Kids[0])
}

func intShape(n api.Node) bool {
	mag := n.Num.Mag
	if n.Text != "" || len(n.Kids) > 0 || n.Num.Neg || len(mag) > api.MaxLimbs {
		return false
	}
	return len(mag) == 0 || mag[len(mag)-1] != 0
}

func callShape(n api.Node) bool {
	if n.Text != "" || !noNum(n) || len(n.Kids) == 0 || !isExpression(n.Kids[0]) {
		return false
	}
	rest := passOver(n.Kids[1:], isExpression)
	rest = passOver(rest, isKeyword)
	return len(rest) == 0 || len(rest) == 1 && isSpread(rest[0])
}
