package life

// Where a life's numbers stand in its list.
const (
	atState = iota
	atDeadline
	atExpires
	atVersions
	fields // how many there are
)

// listed: a life's list.
func listed(l Life) []any {
	return []any{atState: l.State, atDeadline: l.Deadline, atExpires: l.Expires, atVersions: l.Versions}
}

// read: the life that a list of four numbers tells, right or not; false, if a value is no such list.
func read(v any) (Life, bool) {
	l, ok := v.([]any)
	if !ok || len(l) != fields {
		return Life{}, false
	}
	var numbers [fields]int
	for i, v := range l {
		n, ok := v.(int)
		if !ok {
			return Life{}, false
		}
		numbers[i] = n
	}
	return Life{
		State:    numbers[atState],
		Deadline: numbers[atDeadline],
		Expires:  numbers[atExpires],
		Versions: numbers[atVersions],
	}, true
}
