package matches

import "mlcore/api"

// wrongRow is the number of the first row that may not be, the last one behind all
// others; -1: there is none.
func wrongRow(rows [][]api.Pat, row []api.Pat) int {
	r := room{api.MaxMatch}
	for i, list := range rows {
		if len(list) != len(row) || !r.takes(list) {
			return i
		}
	}
	if !r.takes(row) {
		return len(rows)
	}
	return -1
}

// room is how many parts of patterns may still come.
type room struct{ left int }

// takes asks whether patterns are proper and there is room for them. It stops at the
// first part that may not be: what is handed over may be of any size, or a circle.
func (r *room) takes(list []api.Pat) bool {
	for _, p := range list {
		r.left--
		if r.left < 0 || !shaped(p) || !r.takes(p.Kids) {
			return false
		}
	}
	return true
}

// shaped asks whether a part by itself is proper.
func shaped(p api.Pat) bool {
	kids := len(p.Kids)
	switch p.Kind {
	case api.PtAny, api.PtVar, api.PtInt, api.PtStr:
		return kids == 0
	case api.PtAs:
		return kids == 1
	case api.PtTuple:
		return kids != 1
	case api.PtCon:
		return kids <= 1 && 0 <= p.N && p.N < p.Of
	case api.PtExn:
		return kids <= 1
	}
	return false
}
