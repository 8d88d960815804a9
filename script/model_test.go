package script_test

import (
	"fmt"
	"math/rand"
	"regexp"
	"strconv"
	"strings"

	"ordeal/api"
	"ordeal/disk"
	"ordeal/report"
	"ordeal/run"
	"ordeal/script"
	"ordeal/table"
	"ordeal/verdict"
)

// one is a test, in several texts; pair, passing and buffering are others, and fly and the empty text are none.
const (
	fly       = "fly"
	one       = "thread\nstore x 1"
	oneAgain  = " thread\n store  x 0x1 # again\n"
	pair      = "thread\nlr r0 x\nsc r1 x 1\nask 0:r1=0"
	passing   = "thread\nstore x 1\nstore y 1\nthread\nload r0 y\nload r1 x\nask 1:r0=1 1:r1=0"
	buffering = "thread\nstore x 1\nload r0 y\nthread\nstore y 1\nload r0 x\nask 0:r0=0 1:r0=0"
)

// texts are those of random scripts.
var texts = []string{fly, one, oneAgain, pair, passing, buffering, "", "1", "2\n", `\`}

// judged is the key and the encoded verdict of each text that was asked for, since the tests play the same few texts many times.
var judged = map[string]table.Entry{}

// entry is what the table has of a text.
func entry(s string) table.Entry {
	x, ok := judged[s]
	if !ok {
		k, v := verdict.Judge(s)
		x = table.Entry{Key: k, Text: v.Write()}
		judged[s] = x
	}
	return x
}

// campaign is the table of a corpus.
func campaign(corpus []string) *table.Table {
	var t table.Table
	for _, s := range corpus {
		x := entry(s)
		t.Put(x.Key, x.Text)
	}
	return &t
}

// reported is the report of a corpus.
func reported(corpus []string) string {
	s, e := report.Text(campaign(corpus))
	if e != api.OK {
		panic(e)
	}
	return s
}

// number is the form of a number.
const number = `(?:-1|0|[1-9][0-9]{0,8}|1000000000)`

// lineForm is the form of the line of a step.
var lineForm = regexp.MustCompile(`\A(?:` +
	`(text|query) ((?:[^\\]|\\\\|\\n)*)|` +
	`(go|crash|fail|room) (` + number + `)|` +
	`(all|open|report|files)|` +
	`(restart)((?: ` + number + `)*))\z`)

// kinds are those of the words.
var kinds = map[string]int{
	"text": 1, "go": 2, "all": 3, "crash": 4, "fail": 5, "room": 6,
	"restart": 7, "open": 8, "query": 9, "report": 10, "files": 11,
}

// parsedLine is the step of a line, by its form, and whether it has one.
func parsedLine(line string) (script.Step, bool) {
	m := lineForm.FindStringSubmatch(line)
	if m == nil {
		return script.Step{}, false
	}
	x := script.Step{Kind: kinds[m[1]+m[3]+m[5]+m[6]]}
	x.S = strings.NewReplacer(`\\`, `\`, `\n`, "\n").Replace(m[2])
	x.N, _ = strconv.Atoi(m[4])
	for _, word := range strings.Fields(m[7]) {
		n, _ := strconv.Atoi(word)
		x.Choice = append(x.Choice, n)
	}
	return x, true
}

// parsed is what Parse must return.
func parsed(s string) ([]script.Step, int, api.Errno) {
	var steps []script.Step
	var at []int
	for i, line := range strings.Split(s, "\n") {
		if line == "" || strings.HasPrefix(line, "#") {
			continue
		}
		x, ok := parsedLine(line)
		if !ok {
			return nil, i + 1, api.ErrForm
		}
		steps = append(steps, x)
		at = append(at, i+1)
	}
	if len(steps) > 200 {
		return nil, at[200], api.ErrMany
	}
	return steps, 0, api.OK
}

// world is a World in plain terms: what a script says, done one by one with the packages below.
type world struct {
	d      *disk.Disk
	corpus []string
	o      run.Options
	r      *run.Run
}

// do performs a step.
func (w *world) do(x script.Step) script.Result {
	failed := func(e api.Errno) script.Result { return script.Result{Err: e} }
	switch x.Kind {
	case 1:
		w.corpus, w.r = append(w.corpus, x.S), nil
	case 4:
		w.d.Crash(x.N)
	case 5:
		w.d.Fail(x.N)
	case 6:
		w.d.Room(x.N)
	case 7:
		w.d.Restart(x.Choice)
		w.r = nil
	case 11:
		names, e := w.d.Names()
		if e != api.OK {
			return failed(e)
		}
		return script.Result{Text: strings.Join(append(names, ""), "\n")}
	}
	if x.Kind < 1 || x.Kind > 11 {
		return failed(api.ErrArg)
	}
	if x.Kind == 1 || x.Kind >= 4 && x.Kind <= 7 {
		return script.Result{}
	}
	if w.d.Dead() {
		return failed(api.ErrDead)
	}
	if x.Kind == 8 || w.r == nil {
		r, e := run.Open(w.d, w.corpus, w.o)
		if w.r = r; e != api.OK {
			return failed(e)
		}
	}
	return w.campaign(x)
}

// campaign performs a step of the open campaign.
func (w *world) campaign(x script.Step) script.Result {
	switch x.Kind {
	case 9:
		v, ok := w.r.Query(entry(x.S).Key)
		if !ok {
			return script.Result{Err: api.ErrNone}
		}
		return script.Result{Text: v.Write()}
	case 10:
		s, e := report.Text(w.r.Table())
		return script.Result{Err: e, Text: s}
	}
	var e api.Errno
	if x.Kind == 3 {
		e = w.r.All()
	}
	for n := 0; x.Kind == 2 && n < x.N && !w.r.Done() && e == api.OK; n++ {
		_, e = w.r.Step()
	}
	if e != api.OK {
		w.r = nil
		return script.Result{Err: e}
	}
	s := fmt.Sprintf("%d of %d", w.r.At(), len(w.corpus))
	if w.r.Done() {
		s += " done"
	}
	return script.Result{Text: s}
}

// randomNumber is a number of a script.
func randomNumber(r *rand.Rand) int {
	all := []int{-1, 0, 1, 9, 10, 11, 100, 999999999, 1000000000, r.Intn(40), r.Intn(1000), r.Intn(1000000001)}
	return all[r.Intn(len(all))]
}

// randomText is a text with all that may be special in one.
func randomText(r *rand.Rand) string {
	pieces := []string{`\`, `\\`, `\n`, "\n", " ", "#", "n", "text", "all\n", "\x00", "\xff", "é", "\r", "thread\nstore x 1"}
	var b strings.Builder
	for range r.Intn(6) {
		b.WriteString(pieces[r.Intn(len(pieces))])
	}
	return b.String()
}

// randomStep is a step with just the fields of its kind.
func randomStep(r *rand.Rand) script.Step {
	x := script.Step{Kind: 1 + r.Intn(11)}
	switch x.Kind {
	case script.Text, script.Query:
		x.S = randomText(r)
	case script.Go, script.Crash, script.Fail, script.Room:
		x.N = randomNumber(r)
	case script.Restart:
		for range r.Intn(4) {
			x.Choice = append(x.Choice, randomNumber(r))
		}
	}
	return x
}

// randomSteps are up to most of them.
func randomSteps(r *rand.Rand, most int) []script.Step {
	var l []script.Step
	for range r.Intn(most + 1) {
		l = append(l, randomStep(r))
	}
	return l
}
