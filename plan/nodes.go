package plan

import (
	"iter"

	"anabranch/api"
	"anabranch/oper"
)

// node is an operator of a plan, and where it is: its number; its stage, 0 for Pre; its index there, which is 0 for a stage's Op and from 1 on for its Post.
type node struct {
	number, stage, index int
	op                   api.Op
}

// nodes yields the nodes of a plan, in the order of their numbers.
func nodes(p api.Plan) iter.Seq[node] {
	return func(yield func(node) bool) {
		number := -1
		next := func(stage, index int, op api.Op) bool {
			number++
			return yield(node{number, stage, index, op})
		}
		for i, op := range p.Pre {
			if !next(0, i, op) {
				return
			}
		}
		for i, s := range p.Stages {
			if !next(i+1, 0, s.Op) {
				return
			}
			for k, op := range s.Post {
				if !next(i+1, k+1, op) {
					return
				}
			}
		}
	}
}

// numbers returns the numbers of the nodes that are wanted.
func numbers(p api.Plan, wanted func(node) bool) []int {
	var all []int
	for n := range nodes(p) {
		if wanted(n) {
			all = append(all, n.number)
		}
	}
	return all
}

// hasState tells whether a node is where an operator with state belongs; the first one of Pre has the index 0 too.
func (n node) hasState() bool { return n.stage > 0 && n.index == 0 }

// check returns the first error of a node. A valid operator has one of oper's classes: with state, or without.
func (n node) check() api.Errno {
	if e := oper.Check(n.op); e != api.OK {
		return e
	}
	if isStateless := oper.Class(n.op) == oper.Stateless; isStateless == n.hasState() {
		return api.ErrClass
	}
	return api.OK
}
