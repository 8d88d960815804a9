package script

import (
	"math"
	"strconv"
	"strings"

	"ordeal/api"
	"ordeal/canon"
	"ordeal/disk"
	"ordeal/report"
	"ordeal/run"
)

// Result is what came of a step.
type Result struct {
	Err  api.Errno
	Text string
}

// World is a disk, a corpus, and the campaign over it (none: it is to be opened).
type World struct {
	disk     *disk.Disk
	options  run.Options
	corpus   []string
	campaign *run.Run
}

// New: a world with an empty disk, and no texts.
func New(room int, o run.Options) *World {
	return &World{disk: disk.New(room), options: o}
}

// Disk: the disk.
func (w *World) Disk() *disk.Disk {
	return w.disk
}

// Do: one step.
func (w *World) Do(x Step) Result {
	switch x.Kind {
	case Text:
		w.corpus = append(w.corpus, x.S)
		w.campaign = nil
	case Crash:
		w.disk.Crash(x.N)
	case Fail:
		w.disk.Fail(x.N)
	case Room:
		w.disk.Room(x.N)
	case Restart:
		w.disk.Restart(x.Choice)
		w.campaign = nil
	case Files:
		return w.files()
	case Go, All, Open, Query, Report:
		return w.onCampaign(x)
	default:
		return Result{Err: api.ErrArg}
	}
	return Result{}
}

// Play: steps, one behind the other.
func (w *World) Play(l []Step) []Result {
	results := make([]Result, len(l))
	for i, x := range l {
		results[i] = w.Do(x)
	}
	return results
}

// onCampaign does a step for which the campaign must be open.
func (w *World) onCampaign(x Step) Result {
	if w.disk.Dead() {
		return Result{Err: api.ErrDead}
	}
	if x.Kind == Open {
		w.campaign = nil
	}
	if e := w.open(); e != api.OK {
		return Result{Err: e}
	}
	switch x.Kind {
	case Query:
		return w.query(x.S)
	case Report:
		text, e := report.Text(w.campaign.Table())
		return Result{Err: e, Text: text}
	case Go:
		return w.advance(x.N)
	case All:
		return w.advance(math.MaxInt)
	}
	return w.progress()
}

// open opens the campaign, if it is to be opened.
func (w *World) open() api.Errno {
	if w.campaign != nil {
		return api.OK
	}
	r, e := run.Open(w.disk, w.corpus, w.options)
	if e == api.OK {
		w.campaign = r
	}
	return e
}

// advance does n steps of the campaign, or fewer if everything is done before; after an error it is to be opened.
func (w *World) advance(n int) Result {
	for ; n > 0 && !w.campaign.Done(); n-- {
		if _, e := w.campaign.Step(); e != api.OK {
			w.campaign = nil
			return Result{Err: e}
		}
	}
	return w.progress()
}

// progress: how many texts are done, and whether everything is.
func (w *World) progress() Result {
	text := strconv.Itoa(w.campaign.At()) + " of " + strconv.Itoa(len(w.corpus))
	if w.campaign.Done() {
		text += " done"
	}
	return Result{Text: text}
}

// query: the verdict on a text.
func (w *World) query(s string) Result {
	v, found := w.campaign.Query(canon.Of(s).Key)
	if !found {
		return Result{Err: api.ErrNone}
	}
	return Result{Text: v.Write()}
}

// files: the names of the disk's files.
func (w *World) files() Result {
	names, e := w.disk.Names()
	if e != api.OK {
		return Result{Err: e}
	}
	var b strings.Builder
	for _, name := range names {
		b.WriteString(name + "\n")
	}
	return Result{Text: b.String()}
}
