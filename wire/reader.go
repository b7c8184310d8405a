package wire

import (
	"hanse/api"
	"hanse/pack"
)

// reader keeps, beside what is still to be read, whether a list was too long.
// The calls within a literal go from left to right: each below reads its fields in the order in which they stand there.
type reader struct {
	*pack.Reader
	tooLong bool
}

func newReader(b []byte) *reader {
	return &reader{Reader: pack.NewReader(b)}
}

// whole answers x, which was read, if it was right and nothing is left behind it.
func whole[T any](r *reader, x T) (T, api.Errno) {
	if r.tooLong || r.Done() != api.OK {
		var none T
		return none, api.ErrWire
	}
	return x, api.OK
}

func list[T any](r *reader, most uint64, read func() T) []T {
	n := r.Uint()
	// Bytes may claim any length: it is held against what may be ahead of any element.
	if n > most {
		r.tooLong = true
		return nil
	}
	var l []T
	for range n {
		l = append(l, read())
	}
	return l
}

func (r *reader) id() api.ID {
	return api.ID{At: r.Int(), N: r.Int()}
}

func (r *reader) job() api.Job {
	return api.Job{
		ID:    r.id(),
		User:  r.Int(),
		Need:  r.Amount(),
		Wall:  r.Int(),
		Run:   r.Int(),
		Base:  r.Int(),
		After: r.Int(),
		Sites: list(r, api.MaxSites, r.Int),
		Pact:  r.Mark(),
	}
}

func (r *reader) busy() api.Busy {
	return api.Busy{From: r.Int(), To: r.Int(), Need: r.Amount()}
}

func (r *reader) slot() api.Slot {
	return api.Slot{ID: r.id(), At: r.Int()}
}

func (r *reader) span() api.Span {
	return api.Span{From: r.Int(), To: r.Int()}
}

func (r *reader) rec() api.Rec {
	return api.Rec{
		Kind:  r.Int(),
		ID:    r.id(),
		Site:  r.Int(),
		Token: r.Int(),
		Tick:  r.Int(),
		Until: r.Int(),
		How:   r.Int(),
		On:    r.Mark(),
		Job:   r.job(),
		Busy:  r.busy(),
		Spans: list(r, api.MaxSpans, r.span),
		Slots: list(r, api.MaxCopies, r.slot),
	}
}

func (r *reader) msg() api.Msg {
	return api.Msg{
		Kind:  r.Int(),
		ID:    r.id(),
		Token: r.Int(),
		Tick:  r.Int(),
		How:   r.Int(),
		On:    r.Mark(),
		Job:   r.job(),
		Spans: list(r, api.MaxSpans, r.span),
	}
}

func (r *reader) cmd() api.Cmd {
	return api.Cmd{
		Kind: r.Int(),
		ID:   r.id(),
		N:    r.Int(),
		On:   r.Mark(),
		Job:  r.job(),
		Busy: r.busy(),
	}
}

func (r *reader) reply() api.Reply {
	return api.Reply{
		Code:   api.Errno(r.Int()),
		ID:     r.id(),
		N:      r.Int(),
		Phase:  r.Int(),
		How:    r.Int(),
		Holder: r.Int(),
	}
}

func (r *reader) frame() api.Frame {
	return api.Frame{
		From:  r.Int(),
		To:    r.Int(),
		Epoch: r.Int(),
		Peer:  r.Int(),
		Seq:   r.Int(),
		Ack:   r.Int(),
		Body:  r.Text(),
	}
}

func (r *reader) state() api.State {
	return api.State{
		Me:     r.Int(),
		Cap:    r.Amount(),
		Epoch:  r.Int(),
		Drain:  r.Mark(),
		Next:   r.Int(),
		Token:  r.Int(),
		Owns:   list(r, mostOfState, r.own),
		Copies: list(r, mostOfState, r.copy),
		Resvs:  list(r, mostOfState, r.resv),
		Plan:   list(r, mostOfState, r.slot),
		Uses:   list(r, mostOfState, r.use),
		Recs:   r.Int(),
	}
}

func (r *reader) own() api.Own {
	return api.Own{
		Job:    r.job(),
		Phase:  r.Int(),
		Holder: r.Int(),
		Token:  r.Int(),
		Wish:   r.Mark(),
		How:    r.Int(),
		Round:  r.Int(),
		At:     r.Int(),
		Began:  r.Int(),
		Marks:  list(r, api.MaxSites, r.Int),
		Offers: list(r, api.MaxSites, r.offer),
		Parts:  list(r, api.MaxSites, r.part),
	}
}

func (r *reader) offer() api.Offer {
	return api.Offer{Site: r.Int(), Spans: list(r, api.MaxSpans, r.span)}
}

func (r *reader) part() api.Part {
	return api.Part{Site: r.Int(), How: r.Int(), Tick: r.Int()}
}

func (r *reader) copy() api.Copy {
	return api.Copy{
		Job:   r.job(),
		St:    r.Int(),
		Since: r.Int(),
		Low:   r.Int(),
		Token: r.Int(),
		At:    r.Int(),
		How:   r.Int(),
		End:   r.Int(),
	}
}

func (r *reader) resv() api.Resv {
	return api.Resv{
		ID:    r.id(),
		N:     r.Int(),
		Busy:  r.busy(),
		Sure:  r.Mark(),
		Until: r.Int(),
	}
}

func (r *reader) use() api.Use {
	return api.Use{User: r.Int(), Sum: r.Int(), At: r.Int()}
}
