package code

import (
	"math"

	"lexicon/api"
	"lexicon/letters"
	"lexicon/tree"
)

// isWhole asks what is asked of a program beside its functions.
func isWhole(p api.Program) bool {
	if len(p.Funcs) == 0 || len(p.Funcs) > api.MaxFuncs ||
		len(p.Consts) > api.MaxConsts || len(p.Names) > api.MaxConsts {
		return false
	}
	for _, c := range p.Consts {
		if !isConstant(c) {
			return false
		}
	}
	for _, name := range p.Names {
		if !tree.IsName(name) {
			return false
		}
	}
	return true
}

func isConstant(c api.Const) bool {
	noNum := !c.Num.Neg && len(c.Num.Mag) == 0
	switch c.Kind {
	case api.ValNone:
		return !c.Bool && noNum && c.Text == ""
	case api.ValBool:
		return noNum && c.Text == ""
	case api.ValInt:
		return !c.Bool && isFormed(c.Num) && c.Text == ""
	case api.ValStr:
		return !c.Bool && noNum && letters.Good(c.Text)
	}
	return false
}

// isFormed tells whether a number is in its form, and not long.
func isFormed(n api.Int) bool {
	words := len(n.Mag)
	if words == 0 {
		return !n.Neg
	}
	return words <= api.MaxLimbs && n.Mag[words-1] != 0
}

// isRight tells whether a function of a whole program is right. What it asks
// of other functions it asks by their numbers alone: those may be wrong.
func isRight(p api.Program, number int) bool {
	f := p.Funcs[number]
	if (number == 0) != (f.Kind == api.KindModule) || !numbersFit(f) {
		return false
	}
	for _, i := range f.Code {
		if !stands(p, f, i) {
			return false
		}
	}
	return waysMeet(p, f.Code)
}

func numbersFit(f api.Func) bool {
	for _, n := range [...]int{f.Params, f.Defaults, f.Cells, f.Frees} {
		if n < 0 || n > api.MaxNames {
			return false
		}
	}
	params := f.Params
	if f.Rest {
		params++
	}
	return kindFits(f) && len(f.Names) >= params &&
		len(f.Code) > 0 && len(f.Code) <= api.MaxInstrs
}

func kindFits(f api.Func) bool {
	plain := f.Defaults == 0 && !f.Rest
	switch f.Kind {
	case api.KindModule:
		return plain && f.Params == 0 && f.Frees == 0
	case api.KindDef:
		return f.Defaults <= f.Params
	case api.KindClass:
		return plain && f.Params == 0
	case api.KindComp:
		return plain && f.Params == 1
	}
	return false
}

// stands tells whether an instruction may stand in a function, wherever.
func stands(p api.Program, f api.Func, i api.Instr) bool {
	if _, _, ok := Effect(i); !ok || i.A >= room(p, f, rowOf(i).a) {
		return false
	}
	switch i.Op {
	case api.OpFunc:
		return i.B == p.Funcs[i.A].Defaults
	case api.OpLoadName, api.OpSetName, api.OpDelName:
		return f.Kind == api.KindClass
	}
	return true
}

// room is how many there are of what an index tells.
func room(p api.Program, f api.Func, of part) int {
	switch of {
	case aConstant:
		return len(p.Consts)
	case aName:
		return len(p.Names)
	case aFunction:
		return len(p.Funcs)
	case anInstruction:
		return len(f.Code)
	case aLocal:
		return len(f.Names)
	case aCell:
		return f.Cells + f.Frees
	}
	return math.MaxInt
}
