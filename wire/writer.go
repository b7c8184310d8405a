package wire

import (
	"hanse/api"
	"hanse/pack"
)

// writer keeps, beside what was written, whether a list was too long.
type writer struct {
	pack.Writer
	tooLong bool
}

// all answers what was written, if all of it was right.
func (w *writer) all() ([]byte, api.Errno) {
	b, e := w.Bytes()
	if w.tooLong || e != api.OK {
		return nil, api.ErrWire
	}
	return b, api.OK
}

func putList[T any](w *writer, l []T, most int, put func(T)) {
	if len(l) > most {
		w.tooLong = true
		return
	}
	w.Uint(uint64(len(l)))
	for _, x := range l {
		put(x)
	}
}

func (w *writer) ints(l ...int) {
	for _, n := range l {
		w.Int(n)
	}
}

func (w *writer) id(id api.ID) {
	w.ints(id.At, id.N)
}

func (w *writer) job(j api.Job) {
	w.id(j.ID)
	w.Int(j.User)
	w.Amount(j.Need)
	w.ints(j.Wall, j.Run, j.Base, j.After)
	putList(w, j.Sites, api.MaxSites, w.Int)
	w.Mark(j.Pact)
}

func (w *writer) busy(b api.Busy) {
	w.ints(b.From, b.To)
	w.Amount(b.Need)
}

func (w *writer) slot(s api.Slot) {
	w.id(s.ID)
	w.Int(s.At)
}

func (w *writer) span(s api.Span) {
	w.ints(s.From, s.To)
}

func (w *writer) rec(r api.Rec) {
	w.Int(r.Kind)
	w.id(r.ID)
	w.ints(r.Site, r.Token, r.Tick, r.Until, r.How)
	w.Mark(r.On)
	w.job(r.Job)
	w.busy(r.Busy)
	putList(w, r.Spans, api.MaxSpans, w.span)
	putList(w, r.Slots, api.MaxCopies, w.slot)
}

func (w *writer) msg(m api.Msg) {
	w.Int(m.Kind)
	w.id(m.ID)
	w.ints(m.Token, m.Tick, m.How)
	w.Mark(m.On)
	w.job(m.Job)
	putList(w, m.Spans, api.MaxSpans, w.span)
}

func (w *writer) cmd(c api.Cmd) {
	w.Int(c.Kind)
	w.id(c.ID)
	w.Int(c.N)
	w.Mark(c.On)
	w.job(c.Job)
	w.busy(c.Busy)
}

func (w *writer) reply(r api.Reply) {
	w.Int(int(r.Code))
	w.id(r.ID)
	w.ints(r.N, r.Phase, r.How, r.Holder)
}

func (w *writer) frame(f api.Frame) {
	w.ints(f.From, f.To, f.Epoch, f.Peer, f.Seq, f.Ack)
	w.Text(f.Body)
}

func (w *writer) state(s api.State) {
	w.Int(s.Me)
	w.Amount(s.Cap)
	w.Int(s.Epoch)
	w.Mark(s.Drain)
	w.ints(s.Next, s.Token)
	putList(w, s.Owns, mostOfState, w.own)
	putList(w, s.Copies, mostOfState, w.copy)
	putList(w, s.Resvs, mostOfState, w.resv)
	putList(w, s.Plan, mostOfState, w.slot)
	putList(w, s.Uses, mostOfState, w.use)
	w.Int(s.Recs)
}

func (w *writer) own(o api.Own) {
	w.job(o.Job)
	w.ints(o.Phase, o.Holder, o.Token)
	w.Mark(o.Wish)
	w.ints(o.How, o.Round, o.At, o.Began)
	putList(w, o.Marks, api.MaxSites, w.Int)
	putList(w, o.Offers, api.MaxSites, w.offer)
	putList(w, o.Parts, api.MaxSites, w.part)
}

func (w *writer) offer(o api.Offer) {
	w.Int(o.Site)
	putList(w, o.Spans, api.MaxSpans, w.span)
}

func (w *writer) part(p api.Part) {
	w.ints(p.Site, p.How, p.Tick)
}

func (w *writer) copy(c api.Copy) {
	w.job(c.Job)
	w.ints(c.St, c.Since, c.Low, c.Token, c.At, c.How, c.End)
}

func (w *writer) resv(r api.Resv) {
	w.id(r.ID)
	w.Int(r.N)
	w.busy(r.Busy)
	w.Mark(r.Sure)
	w.Int(r.Until)
}

func (w *writer) use(u api.Use) {
	w.ints(u.User, u.Sum, u.At)
}
