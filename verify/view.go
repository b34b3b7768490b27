package verify

// view is what may be asked of the types that a block's slots have, and done to them; the types themselves are known to these closures alone.
type view struct {
	typed func(slot int) *words                // its type: it must have one
	give  func(slot int, t *words)             // it has that type now
	with  func(slot int, t *words, ask func()) // it has that type while ask is done, and then again what it had
	keep  func(live []int)                     // these must have types; no others have any now
	fit   func(in []int)                       // each must have what is within the type that stands there, if one does
}

// begin has slots with the types that In says.
func begin(types []*words, in []int) view {
	now := make([]*words, len(in)) // nil: none
	for slot, n := range in {
		if n != none {
			now[slot] = types[n]
		}
	}
	typed := func(slot int) *words {
		need(has(now, slot) && now[slot] != nil)
		return now[slot]
	}
	give := func(slot int, t *words) {
		need(has(now, slot))
		now[slot] = t
	}
	with := func(slot int, t *words, ask func()) {
		need(has(now, slot))
		was := now[slot]
		now[slot] = t
		ask()
		now[slot] = was
	}
	keep := func(live []int) {
		need(rises(live))
		kept := make([]*words, len(now))
		for _, slot := range live {
			kept[slot] = typed(slot)
		}
		now = kept
	}
	fit := func(in []int) {
		for slot, n := range in {
			if n != none {
				need(typed(slot).within(types[n]))
			}
		}
	}
	return view{typed: typed, give: give, with: with, keep: keep, fit: fit}
}
