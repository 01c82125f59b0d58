package tree

import (
	"lexicon/api"
	"lexicon/letters"
	"lexicon/lexer"
)

// What may stand at a place: of Kids by their kinds, of Texts by their bytes.

func isNone(n api.Node) bool       { return n.Kind == api.NodeNone }
func isBlock(n api.Node) bool      { return n.Kind == api.NodeBlock }
func isTargetList(n api.Node) bool { return n.Kind == api.NodeTargets }
func isExcept(n api.Node) bool     { return n.Kind == api.NodeExcept }
func isNameNode(n api.Node) bool   { return n.Kind == api.NodeName }
func isPair(n api.Node) bool       { return n.Kind == api.NodePair }
func isSpread(n api.Node) bool     { return n.Kind == api.NodeSpread }
func isKeyword(n api.Node) bool    { return n.Kind == api.NodeKeyword }

func isInnerBlock(n api.Node) bool { return isBlock(n) && len(n.Kids) > 0 }
func isItem(n api.Node) bool       { return isPair(n) || isSpread(n) }
func isTargets(n api.Node) bool    { return IsTarget(n) || isTargetList(n) }

// orNone takes a NodeNone beside what a test takes.
func orNone(takes shape) shape {
	return func(n api.Node) bool { return isNone(n) || takes(n) }
}

func isStatement(n api.Node) bool {
	return n.Kind >= api.NodeExpr && n.Kind <= api.NodeTry && n.Kind != api.NodeParam
}

func isExpression(n api.Node) bool {
	switch n.Kind {
	case api.NodePair, api.NodeSpread, api.NodeKeyword:
		return false
	}
	return n.Kind >= api.NodeName && n.Kind <= api.NodeIndex
}

// IsTarget tells whether something can be given to a node.
func IsTarget(n api.Node) bool {
	switch n.Kind {
	case api.NodeName, api.NodeAttr, api.NodeIndex:
		return true
	}
	return false
}

func noNum(n api.Node) bool { return !n.Num.Neg && len(n.Num.Mag) == 0 }

func noText(s string) bool { return s == "" }

func isGood(s string) bool { return letters.Good(s) }

func isNameOrNone(s string) bool { return s == "" || IsName(s) }

// IsName tells whether a text is a name.
func IsName(s string) bool {
	for i := range len(s) {
		if c := s[i]; !isLetter(c) && (i == 0 || !isDigit(c)) {
			return false
		}
	}
	return s != "" && !lexer.Word(s)
}

func isLetter(c byte) bool {
	return c >= 'a' && c <= 'z' || c >= 'A' && c <= 'Z' || c == '_'
}

func isDigit(c byte) bool { return c >= '0' && c <= '9' }

func isConstant(s string) bool {
	switch s {
	case "None", "True", "False":
		return true
	}
	return false
}

func isOperator(s string) bool {
	switch s {
	case "+", "-", "*", "//", "%", "&", "|", "^":
		return true
	}
	return false
}

func isComparison(s string) bool {
	switch s {
	case "==", "!=", "<", "<=", ">", ">=", "in", "not in", "is", "is not":
		return true
	}
	return false
}
