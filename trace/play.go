package trace

import "retorter/api"

// mayBegin tells whether c's Latches may be as start says at first.
func mayBegin(c api.Circuit, start []bool) bool {
	if len(start) != len(c.Latches) {
		return false
	}
	for i, l := range c.Latches {
		if l.Reset != l.Lit && start[i] != (l.Reset == 1) {
			return false
		}
	}
	return true
}

// play goes through all steps of t, and tells the last one; false if one can't be, or if a Constraint does not hold in it.
func play(step func(state, inputs []bool) (api.Row, api.Errno), t api.Trace) (api.Row, bool) {
	row := api.Row{Next: t.Start}
	for _, inputs := range t.Inputs {
		var e api.Errno
		row, e = step(row.Next, inputs)
		if e != api.OK || !row.Holds {
			return api.Row{}, false
		}
	}
	return row, true
}
