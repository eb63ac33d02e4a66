package tally

const (
	maxKey      = 65535
	maxValue    = 20  // bytes
	maxEntries  = 200 // of a call
	maxKeys     = 20  // of a proof
	maxVersions = 100 // behind version 0
)

// checkTable answers the error of Root that is named first: hence a pass over the whole list for each of them.
func checkTable(table []Entry) Errno {
	if len(table) > maxEntries {
		return ErrMany
	}
	if e := checkKeys(keysOf(table)); e != OK {
		return e
	}
	for _, entry := range table {
		if entry.Value == "" || len(entry.Value) > maxValue {
			return ErrValue
		}
	}
	return OK
}

// checkChanges lets empty values pass: they take keys out.
func checkChanges(changes []Entry, most int) Errno {
	if len(changes) > most {
		return ErrMany
	}
	if e := checkKeys(keysOf(changes)); e != OK {
		return e
	}
	for _, change := range changes {
		if len(change.Value) > maxValue {
			return ErrValue
		}
	}
	return OK
}

func checkProofKeys(keys []int) Errno {
	if len(keys) > maxKeys {
		return ErrMany
	}
	return checkKeys(keys)
}

func keysOf(entries []Entry) []int {
	keys := make([]int, len(entries))
	for i, entry := range entries {
		keys[i] = entry.Key
	}
	return keys
}

func checkKeys(keys []int) Errno {
	for _, key := range keys {
		if !isKey(key) {
			return ErrKey
		}
	}
	for i := 1; i < len(keys); i++ {
		if keys[i] <= keys[i-1] {
			return ErrOrder
		}
	}
	return OK
}

func isKey(key int) bool {
	return 0 <= key && key <= maxKey
}
