package rlog

import "delphi/api"

// mayFollow says whether the entries may stand behind one of this Index and Term.
func mayFollow(index, term int64, es []api.Entry) bool {
	for _, e := range es {
		// index + 1 may be beyond all numbers; e.Index - 1 is not, where e.Index is above index.
		if e.Index <= index || e.Index-1 != index || e.Term < max(term, 1) || !isGood(e) {
			return false
		}
		index, term = e.Index, e.Term
	}
	return true
}

// isGood says whether the entry is of a kind, and tells members if it has to.
func isGood(e api.Entry) bool {
	switch e.Kind {
	case api.ENop, api.EData:
		return true
	case api.EConf:
		return len(membersOf(e.Data)) > 0
	}
	return false
}

// membersOf says the same as ballot.Members, which stands above this layer: none, if these are not a byte for each.
func membersOf(data []byte) []int {
	var conf []int
	last := 0
	for _, b := range data {
		id := int(b)
		if id <= last || id > api.MaxIds {
			return nil
		}
		conf = append(conf, id)
		last = id
	}
	return conf
}
