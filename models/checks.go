package models

import (
	"slices"

	"bucketline/api"
	"bucketline/order"
)

// Check reports whether a request is valid. (P13.2)
func Check(a api.Ask) bool {
	switch a.Kind {
	case api.KiPut:
		return canBeRequested(a.Key) && isValue(a.Value) && hasOnly(a, api.Ask{Key: a.Key, Value: a.Value})
	case api.KiDel, api.KiGet:
		return canBeRequested(a.Key) && hasOnly(a, api.Ask{Key: a.Key})
	case api.KiCas:
		return canBeRequested(a.Key) && isValue(a.Value) && isCondition(a) && hasOnly(a, api.Ask{Key: a.Key, Value: a.Value, Old: a.Old, New: a.New})
	case api.KiBatch:
		return isBatch(a.L) && hasOnly(a, api.Ask{L: a.L})
	case api.KiScan:
		return canBeRequested(a.Key) && canBeRequested(a.To) && a.Many >= 0 && a.Many <= api.MaxScan && hasOnly(a, api.Ask{Key: a.Key, To: a.To, Many: a.Many})
	default:
		return false
	}
}

// hasOnly reports whether a request has nothing in any field but what the named ones have.
func hasOnly(a, named api.Ask) bool {
	return a.Key == named.Key && a.Value == named.Value && a.Old == named.Old && a.New == named.New && a.To == named.To && a.Many == named.Many && len(a.L) == len(named.L)
}

func canBeRequested(key string) bool {
	return order.Check(key) && len(key) <= api.MaxUser
}

func isValue(value string) bool {
	return len(value) <= api.MaxValue
}

// isCondition reports whether a request names what the row must be: none, or one with an old value.
func isCondition(a api.Ask) bool {
	return isValue(a.Old) && (a.Old == "" || !a.New)
}

func isBatch(l []api.Change) bool {
	return len(l) >= 1 && len(l) <= api.MaxBatch && !slices.ContainsFunc(l, isNoChange)
}

func isNoChange(c api.Change) bool {
	return !canBeRequested(c.Key) || !isValue(c.Value) || c.Gone && c.Value != ""
}
