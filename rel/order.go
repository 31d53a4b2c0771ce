package rel

import (
	"commonhold/api"
	"commonhold/value"
)

// hasPlace: whether rows, which are all of one length, have a place; where there are none, they may have any from 0 on.
func hasPlace(rows [][]api.Value, place int) bool {
	return place >= 0 && (len(rows) == 0 || place < len(rows[0]))
}

// order: Order, of two values that may be, so that nothing is refused.
func order(a, b api.Value) int {
	n, _ := value.Order(a, b)
	return n
}

// byOrders: a closure that tells how two rows stand by the values of items.
func byOrders(orders []api.Order) func(a, b []api.Value) int {
	return func(a, b []api.Value) int {
		for _, o := range orders {
			n := order(a[o.Item-1], b[o.Item-1])
			if o.Down {
				n = -n
			}
			if n != 0 {
				return n
			}
		}
		return 0
	}
}

// byPlaces: a closure that tells how two rows stand by the values in places.
func byPlaces(places []int) func(a, b []api.Value) int {
	return func(a, b []api.Value) int {
		for _, place := range places {
			if n := order(a[place], b[place]); n != 0 {
				return n
			}
		}
		return 0
	}
}
