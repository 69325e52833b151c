// Package deal: what a transaction writes, and where.
package deal

import "accord/api"

// Deal is one transaction: its writes, which never change.
type Deal struct {
	writes []api.Write
}

// Sound tells whether these are writes of a transaction, in a world of so many parts.
func Sound(writes []api.Write, parts int) bool {
	if len(writes) < 1 || len(writes) > api.MaxWrites {
		return false
	}
	for i, write := range writes {
		if write.Part < 1 || write.Part > parts || !IsKey(write.Key) {
			return false
		}
		if find(writes[:i], write.Part, write.Key) >= 0 {
			return false
		}
	}
	return true
}

// IsKey tells whether parts have such a key.
func IsKey(key int) bool {
	return key >= 0 && key < api.Keys
}

// Make copies the writes, because the list stays its caller's.
func Make(writes []api.Write) Deal {
	list := make([]api.Write, len(writes))
	copy(list, writes)
	return Deal{writes: list}
}

// Members are the parts that it writes to, by rising numbers.
func (d Deal) Members() []int {
	var members []int
	for part := 1; part <= api.MaxParts; part++ {
		if d.hasMember(part) {
			members = append(members, part)
		}
	}
	return members
}

// Value is what it gives to a key of a part, and whether it gives it anything.
func (d Deal) Value(part int, key int) (int, bool) {
	i := find(d.writes, part, key)
	if i < 0 {
		return 0, false
	}
	return d.writes[i].Value, true
}

func (d Deal) hasMember(part int) bool {
	for _, write := range d.writes {
		if write.Part == part {
			return true
		}
	}
	return false
}

// find is the place of the write to a key of a part, -1 if there is none.
func find(writes []api.Write, part int, key int) int {
	for i, write := range writes {
		if write.Part == part && write.Key == key {
			return i
		}
	}
	return -1
}
