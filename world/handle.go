package world

import "palaver/api"

// anyHandle is a handle of a file or of a host.
type anyHandle interface {
	fault() api.Errno
	expire()
}

// held is what the handles of files and of hosts have in common.
type held struct {
	stale bool
}

// fault is why the handle can't be used.
func (h *held) fault() api.Errno {
	if h.stale {
		return api.ErrWorldStale
	}
	return api.OK
}

// expire makes the handle stale.
func (h *held) expire() {
	h.stale = true
}

type fileHandle struct {
	held
	file *file
	mode int
	at   int
}

// expire lets go of the file, too: stale handles are never closed, and would keep the bytes of files that are gone.
func (h *fileHandle) expire() {
	h.held.expire()
	h.file = nil
}

// place is where a write goes. Others may have made the file longer, or shorter, since the handle was there.
func (h *fileHandle) place() int {
	if h.mode == api.ModeAppend {
		return len(h.file.bytes)
	}
	return h.at
}

// hostHandle holds nothing of its own: what a host does is chosen anew each time.
type hostHandle struct {
	held
}

// full tells whether no handle can be issued.
func (w *World) full() bool {
	return w.open == api.MaxHandles
}

// issue gives a handle its number.
func (w *World) issue(h anyHandle) int {
	w.issued++
	w.open++
	w.handles[w.issued] = h
	return w.issued
}

// fileOf is the handle of a file that has that number.
func (w *World) fileOf(number int) (*fileHandle, api.Errno) {
	h, is := w.handles[number].(*fileHandle)
	if !is {
		return nil, api.ErrWorldHandle
	}
	return h, h.fault()
}

// hostFault is why the handle with that number can't be used for a host.
func (w *World) hostFault(number int) api.Errno {
	h, is := w.handles[number].(*hostHandle)
	if !is {
		return api.ErrWorldHandle
	}
	return h.fault()
}
