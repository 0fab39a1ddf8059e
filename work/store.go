package work

import (
	"bytes"

	"rayhouse/api"
)

// lengthBytes stand ahead of each film on a disk.
const lengthBytes = 4

// Store: films that were saved one behind the other.
type Store struct {
	disk []byte
}

// Keep puts a film behind the others.
func (s *Store) Keep(f api.Film) api.Errno {
	b, e := Save(f)
	if e != api.OK {
		return e
	}
	if s == nil {
		return api.ErrState
	}
	s.disk = appendNumber(s.disk, len(b), lengthBytes)
	s.disk = append(s.disk, b...)
	return api.OK
}

// Bytes are what is on the disk.
func (s *Store) Bytes() []byte {
	if s == nil {
		return nil
	}
	return bytes.Clone(s.disk)
}

// Wake is what is left of a disk, whatever was cut off: the store, and the last film that is whole; false: there is none.
func Wake(disk []byte) (s *Store, last api.Film, ok bool) {
	end := 0
	for {
		f, size, whole := firstFilm(disk[end:])
		if !whole {
			break
		}
		last, ok = f, true
		end += size
	}
	// A film has one form only: what was read is what Keep would write.
	return &Store{disk: bytes.Clone(disk[:end])}, last, ok
}

// firstFilm is the one with which a disk begins, and how many bytes it takes there; false: none is whole there.
func firstFilm(disk []byte) (f api.Film, size int, whole bool) {
	if len(disk) < lengthBytes {
		return api.Film{}, 0, false
	}
	length := numberOf(disk[:lengthBytes])
	disk = disk[lengthBytes:]
	if length > len(disk) {
		return api.Film{}, 0, false
	}
	f, e := Load(disk[:length])
	if e != api.OK {
		return api.Film{}, 0, false
	}
	return f, lengthBytes + length, true
}
