package small

import "topiary/api"

// kindList is the kind of nowhere, then that of each state.
type kindList []int

// of tells the kind of a state, or of nowhere.
func (l kindList) of(state int) int { return l[state-nowhere] }

// kindsOf tells which states of d are alike. Nowhere is counted as a state, so that the dead ones are of its kind. Kinds part round by round: behind round n those are of one kind that do the same for all texts of at most n bytes.
func kindsOf(d api.DFA) kindList {
	kinds, count := told(d, func(state int) int { return acceptOf(d, state) })
	for {
		finer, more := told(d, func(state int) string { return keyOf(d, state, kinds) })
		if more == count {
			return kinds
		}
		kinds, count = finer, more
	}
}

// told tells kinds by keys, the same kind just for the same key, and how many there are.
func told[K comparable](d api.DFA, key func(state int) K) (kindList, int) {
	numbers := map[K]int{}
	var kinds kindList
	for state := nowhere; state < len(d.Next); state++ {
		k := key(state)
		kind, met := numbers[k]
		if !met {
			kind = len(numbers)
			numbers[k] = kind
		}
		kinds = append(kinds, kind)
	}
	return kinds, len(numbers)
}

// keyOf tells a state's kind, and the kinds to which it leads. One byte is enough for each, as there are at most MaxStates and nowhere.
func keyOf(d api.DFA, state int, kinds kindList) string {
	key := make([]byte, 0, 1+byteCount)
	key = append(key, byte(kinds.of(state)))
	for b := range byteCount {
		key = append(key, byte(kinds.of(nextOf(d, state, b))))
	}
	return string(key)
}

// nextOf tells the state to which one leads by a byte; nowhere leads to itself.
func nextOf(d api.DFA, state, b int) int {
	if state == nowhere {
		return nowhere
	}
	return d.Next[state][b]
}

// acceptOf tells the rule that a state accepts; nowhere accepts none.
func acceptOf(d api.DFA, state int) int {
	if state == nowhere {
		return nowhere
	}
	return d.Accept[state]
}
