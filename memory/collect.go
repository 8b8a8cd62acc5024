package memory

import (
	"palaver/api"
	"palaver/compact"
	"palaver/scavenge"
)

// Scavenge keeps what lives of the young objects.
func (m *Memory) Scavenge() (api.Report, api.Errno) {
	return scavenge.Run(m.Heap(), m.sizes.Tenure)
}

// Collect keeps what lives.
func (m *Memory) Collect() api.Report {
	report := compact.Run(m.Heap())
	for _, o := range report.Fired {
		m.Enqueue(o)
	}
	m.count = 0
	for sp := api.Eden; sp <= api.Pins; sp++ {
		m.count += m.Used(sp)
	}
	return report
}

// Fired is the next ephemeron that has fired; 0: there is none.
func (m *Memory) Fired() api.Oop { return m.Dequeue() }

// Check tells whether all is sound.
func (m *Memory) Check() api.Errno {
	err, _ := compact.Check(m.Heap())
	return err
}

// hold does an action, which may collect, while an object is a root after all others; where the object is behind it. 0 needs no root.
func (m *Memory) hold(o api.Oop, action func()) api.Oop {
	if o == 0 {
		action()
		return 0
	}
	place := m.Queued()
	m.Enqueue(o)
	action()
	return m.withdraw(place)
}

// withdraw takes out of the queue what stands at a place of it.
func (m *Memory) withdraw(place int) api.Oop {
	withdrawn := api.Oop(0)
	for i := range m.Queued() {
		if o := m.Dequeue(); i == place {
			withdrawn = o
		} else {
			m.Enqueue(o)
		}
	}
	return withdrawn
}
