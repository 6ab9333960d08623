package tests

import (
	"slices"
	"strings"
	"testing"

	"loop.example/g00540/impl"
)

func comes(text string) impl.Act { return impl.Act{Kind: impl.AcArrive, Text: text} }

func steps(id int) impl.Act { return impl.Act{Kind: impl.AcStep, Id: id} }

func cancels(id int) impl.Act { return impl.Act{Kind: impl.AcCancel, Id: id} }

func ticks() impl.Act { return impl.Act{Kind: impl.AcTick} }

// rightActs are of each kind, up to its bounds.
func rightActs() []impl.Act {
	list := []impl.Act{ticks()}
	for _, text := range []string{"", " ", "{", "{ size }", asksValue, asksSum, asksSet, "\x00\xff", strings.Repeat("{", impl.MaxText), filled("\t{ size }", impl.MaxText-1), filled("\t{ size }", impl.MaxText)} {
		list = append(list, comes(text))
	}
	for _, id := range []int{0, 1, 2, 5, 60, 999999, 1000000} {
		list = append(list, steps(id), cancels(id))
	}
	return list
}

// wrongActs have one thing that is not right.
func wrongActs() (list []impl.Act) {
	for _, kind := range []int{0, -1, 5, 6, 255, 256, 257, hugeInt, tinyInt, leastInt} {
		list = append(list, impl.Act{Kind: kind}, impl.Act{Kind: kind, Id: 1}, impl.Act{Kind: kind, Text: "{ size }"})
	}
	for _, id := range []int{-1, 1, 2, 1000000, 1000001, hugeInt, tinyInt, leastInt} {
		list = append(list, impl.Act{Kind: impl.AcArrive, Id: id}, impl.Act{Kind: impl.AcArrive, Id: id, Text: "{ size }"}, impl.Act{Kind: impl.AcTick, Id: id})
	}
	for _, id := range []int{-1, -2, 1000001, 1000002, 1 << 32, hugeInt, tinyInt, leastInt} {
		list = append(list, steps(id), cancels(id))
	}
	for _, text := range []string{" ", "x", "1", "\x00", "{ size }", strings.Repeat("x", impl.MaxText), strings.Repeat("x", impl.MaxText+1)} {
		list = append(list, impl.Act{Kind: impl.AcStep, Text: text}, impl.Act{Kind: impl.AcStep, Id: 1, Text: text}, impl.Act{Kind: impl.AcCancel, Text: text}, impl.Act{Kind: impl.AcCancel, Id: 1, Text: text}, impl.Act{Kind: impl.AcTick, Text: text})
	}
	for _, size := range []int{impl.MaxText + 1, impl.MaxText + 2, 10 * impl.MaxText} {
		list = append(list, comes(filled("\t{ size }", size)), comes(strings.Repeat("{", size)))
	}
	return list
}

func TestConstantsOfActs(t *testing.T) {
	if got := []int{impl.MaxActs, impl.AcArrive, impl.AcStep, impl.AcCancel, impl.AcTick}; !slices.Equal(got, []int{200, 1, 2, 3, 4}) {
		t.Error("constants", got)
	}
}

func TestActOK(t *testing.T) {
	for _, a := range rightActs() {
		if !impl.ActOK(a) {
			t.Errorf("ActOK of %s = false", actTold(a))
		}
	}
	for _, a := range wrongActs() {
		if impl.ActOK(a) {
			t.Errorf("ActOK of %s = true", actTold(a))
		}
	}
}

func actTold(a impl.Act) string { return brief(a) }

// actByCalls is ActDo told again, of what is right, by the calls of chapter 13.
func actByCalls(v impl.Server, a impl.Act) (impl.Server, int) {
	code := impl.OK
	switch a.Kind {
	case impl.AcArrive:
		v, _, code = impl.Arrive(v, a.Text)
	case impl.AcStep:
		v, code = impl.StepOne(v, a.Id)
	case impl.AcCancel:
		v, code = impl.CancelOne(v, a.Id)
	case impl.AcTick:
		v, _, code = impl.Tick(v)
	}
	return v, code
}

// wantActed fails unless the act does what its call does.
func wantActed(t *testing.T, v impl.Server, a impl.Act) (impl.Server, int) {
	t.Helper()
	want, wantCode := actByCalls(v, a)
	got, code := impl.ActDo(v, a)
	if code != wantCode {
		t.Errorf("ActDo of %s = %d, want %d", actTold(a), code, wantCode)
	}
	wantServer(t, "ActDo of "+actTold(a), got, want)
	wantOwnMemory(t, "ActDo", got, v, a)
	return got, code
}

func wantNoAct(t *testing.T, v impl.Server, a impl.Act) {
	t.Helper()
	if x, code := impl.ActDo(v, a); !isZeroServer(x) || code != impl.ErrBad {
		t.Errorf("ActDo of %s = %s, %d, want ErrBad", actTold(a), brief(x), code)
	}
}

// Each act at each server that is right, with every code that its call tells.
func TestActDo(t *testing.T) {
	came := map[string]int{}
	for _, v := range serversForCalls(t) {
		if !impl.ServerOK(v) {
			continue
		}
		acts := rightActs()
		for _, id := range idsOf(v) {
			acts = append(acts, steps(id), cancels(id))
		}
		for _, a := range acts {
			x, code := wantActed(t, v, a)
			came[actKinds[a.Kind]+" "+words[code]]++
			if code != impl.OK {
				wantServer(t, "a server as it was", x, v)
			}
			if !impl.ServerOK(x) {
				t.Errorf("ActDo of %s leaves what is not right:\n%s", actTold(a), serverTold(x))
			}
		}
	}
	for _, word := range []string{"arrive ok", "arrive full", "step ok", "step none", "cancel ok", "cancel none", "tick ok"} {
		if came[word] < 10 {
			t.Error("what is acted is of no use", came)
		}
	}
}

var actKinds = []string{"", "arrive", "step", "cancel", "tick"}

func idsOf(v impl.Server) (ids []int) {
	for _, l := range v.Live {
		ids = append(ids, l.Id)
	}
	for _, d := range v.Done {
		ids = append(ids, d.Id)
	}
	return ids
}

// A server that is not right, an act that is not, and both: nothing is told of them.
func TestActDoOfWhatIsNotRight(t *testing.T) {
	wrong := wrongActs()
	at := 0
	for _, v := range serversForCalls(t) {
		right := impl.ServerOK(v)
		for range 3 {
			wantNoAct(t, v, wrong[at%len(wrong)])
			at++
		}
		if right {
			continue
		}
		for _, a := range []impl.Act{comes("{ size }"), comes("{"), comes(asksValue), steps(5), steps(0), cancels(5), cancels(0), ticks()} {
			wantNoAct(t, v, a)
		}
	}
	for _, a := range wrong {
		wantNoAct(t, busyServer(t), a)
		wantNoAct(t, impl.Server{}, a)
		wantNoAct(t, crowded(t, 4, 56), a)
	}
	if at < 2*len(wrong) {
		t.Error("what is handed in is of no use", at, len(wrong))
	}
}

// All codes of chapter 13 by hand, with what there is then.
func TestActDoByHand(t *testing.T) {
	do := func(v impl.Server, a impl.Act, want int, then impl.Server) {
		t.Helper()
		x, code := impl.ActDo(v, a)
		if code != want {
			t.Errorf("ActDo of %s = %d, want %d", actTold(a), code, want)
		}
		wantServer(t, "ActDo of "+actTold(a), x, then)
	}
	v := busyServer(t)
	do(v, comes(asksValue), impl.OK, wantLive(t, v, asksValue))
	do(v, comes("{ size }"), impl.OK, wantAnswered(t, v, "{ size }", `{"data":{"size":8}}`))
	do(v, comes(asksSet), impl.OK, wantAnswered(t, v, asksSet, `{"data":{"set":{"value":5}}}`, put(2, 5)))
	for text, code := range faultTexts() {
		do(v, comes(text), impl.OK, wantDoneAtOnce(t, v, text, code))
	}
	for _, id := range []int{12, 3, 19} {
		do(v, steps(id), impl.OK, wantStepped(t, v, id))
		do(v, cancels(id), impl.OK, wantCancelled(t, v, id))
	}
	for _, id := range []int{0, 7, 2, 1, 9, 18, 4, 8, 20, 1000000} {
		do(v, steps(id), impl.ErrNone, v)
		do(v, cancels(id), impl.ErrNone, v)
	}
	do(v, ticks(), impl.OK, wantTicked(t, v, 2, 1))
	for _, full := range []impl.Server{crowded(t, 4, 56), crowded(t, 0, 60), {Store: plainStore(), Next: 1000000}} {
		do(full, comes("{ size }"), impl.ErrFull, full)
		do(full, comes("{"), impl.ErrFull, full)
		do(full, comes(""), impl.ErrFull, full)
	}
	do(crowded(t, 4, 3), comes(asksSum), impl.ErrFull, crowded(t, 4, 3))
	last := impl.Server{Store: storeAt(impl.MaxTime, plainMap()), Next: 5}
	do(last, comes(asksSet), impl.OK, wantDoneAtOnce(t, last, asksSet, impl.ErrSpent))
}

// wantActsRun fails unless the acts one by one on a new server have the codes, and leave the same.
func wantActsRun(t *testing.T, acts []impl.Act) (impl.Server, []int) {
	t.Helper()
	want := impl.NewServer()
	var wantCodes []int
	for _, a := range acts {
		next, code := actByCalls(want, a)
		want, wantCodes = next, append(wantCodes, code)
	}
	v, codes, code := impl.ActsRun(acts)
	if code != impl.OK || !slices.Equal(codes, wantCodes) {
		t.Errorf("ActsRun of %s = %v, %d, want %v", brief(acts), codes, code, wantCodes)
	}
	wantServer(t, "ActsRun", v, want)
	wantOwnMemory(t, "ActsRun", []any{v, codes}, acts)
	return v, codes
}

func wantNoActsRun(t *testing.T, what string, acts []impl.Act, want int) {
	t.Helper()
	if v, codes, code := impl.ActsRun(acts); !isZeroServer(v) || len(codes) > 0 || code != want {
		t.Errorf("ActsRun of %s = %s, %v, %d, want code %d", what, brief(v), codes, code, want)
	}
}

func TestActsRunByHand(t *testing.T) {
	wantServer(t, "ActsRun of none", first(wantActsRun(t, nil)), impl.NewServer())
	wantServer(t, "ActsRun of none", first(wantActsRun(t, []impl.Act{})), impl.NewServer())
	v, codes := wantActsRun(t, []impl.Act{
		ticks(), steps(1), cancels(1),
		comes(asksValue), comes(asksSum), comes("{"), comes(asksSet), comes(asksSum), comes(asksValue), comes(asksValue), comes("{ nothing }"),
		steps(2), steps(5), steps(5), cancels(1), steps(1), cancels(7), ticks(), cancels(0), steps(1000000),
	})
	none, full := impl.ErrNone, impl.ErrFull
	if !slices.Equal(codes, []int{0, none, none, 0, 0, 0, 0, 0, 0, full, 0, 0, 0, none, 0, none, none, 0, none, none}) {
		t.Error("codes of acts", codes)
	}
	s := storeAt(2, map[int][]impl.Version{2: {{Ts: 1, Value: 5}, {Ts: 2, Value: 7}}})
	want := impl.Server{
		Store: s,
		Live:  []impl.Live{liveOf(t, s, 2, 1, 0, asksSum, 1, 0), liveOf(t, s, 6, 0, 2, asksValue, 1, 0)},
		Done: []impl.Done{failedOf(3, 0, impl.ErrForm), doneOf(t, 4, 1, 1, true, asksSet, `{"data":{"set":{"value":5}}}`),
			failedOf(7, 2, impl.ErrField), doneOf(t, 5, 2, 2, true, asksSum, `{"data":{"add":{"value":7}}}`), failedOf(1, 0, impl.ErrCancelled)},
		Next: 8,
	}
	wantServer(t, "ActsRun", v, want)
}

func first[T, U any](a T, _ U) T { return a }

// actsUpTo are so many; most of them are refused.
func actsUpTo(n int) []impl.Act {
	list := make([]impl.Act, n)
	for i := range list {
		list[i] = []impl.Act{comes(asksSet), comes(asksValue), steps(2), ticks(), cancels(n)}[i%5]
	}
	return list
}

func TestLengthsOfActs(t *testing.T) {
	for _, n := range []int{0, 1, 2, 3, 4, 5, 100, 198, 199, 200} {
		_, codes := wantActsRun(t, actsUpTo(n))
		if len(codes) != n {
			t.Error("codes", len(codes), n)
		}
	}
	for _, n := range []int{201, 202, 400, 1000, impl.MaxList - 1, impl.MaxList} {
		wantNoActsRun(t, "many", actsUpTo(n), impl.ErrMany)
		wantNoActsRun(t, "many that are none", make([]impl.Act, n), impl.ErrMany)
	}
	for _, n := range []int{impl.MaxList + 1, impl.MaxList + 2, 100000} {
		wantNoActsRun(t, "too many", actsUpTo(n), impl.ErrLong)
		wantNoActsRun(t, "too many that are none", make([]impl.Act, n), impl.ErrLong)
	}
}

// An act that is not right, wherever it stands; nothing is told of those ahead of it.
func TestActsRunOfWhatIsNoAct(t *testing.T) {
	for _, n := range []int{1, 2, 3, 99, 200} {
		for _, at := range []int{0, n / 2, n - 1} {
			for i, a := range wrongActs() {
				if n > 3 && i%5 > 0 {
					continue
				}
				list := actsUpTo(n)
				list[at] = a
				wantNoActsRun(t, actTold(a), list, impl.ErrBad)
			}
		}
	}
	for _, n := range []int{201, impl.MaxList} {
		for _, at := range []int{0, 100, 200, n - 1} {
			list := actsUpTo(n)
			list[at] = impl.Act{}
			wantNoActsRun(t, "many, with one that is none", list, impl.ErrMany)
		}
	}
}

// Each act that is right, alone and behind others.
func TestActsRunOfEach(t *testing.T) {
	for _, a := range rightActs() {
		wantActsRun(t, []impl.Act{a})
		wantActsRun(t, []impl.Act{comes(asksValue), a, a, comes(asksSum), steps(2), a})
	}
}

// So many come that there is no room: among those that are live; in all.
func TestActsRunTillItIsFull(t *testing.T) {
	full := impl.ErrFull
	acts := slices.Repeat([]impl.Act{comes(asksValue)}, 6)
	acts = append(acts, comes("{ size }"), comes("{"), comes(asksSum), steps(1), comes(asksSum), comes(asksSum))
	_, codes := wantActsRun(t, acts)
	if !slices.Equal(codes, []int{0, 0, 0, 0, full, full, full, 0, full, 0, 0, full}) {
		t.Error("codes where there is no room among those that are live", codes)
	}
	acts = nil
	for i := range 15 {
		acts = append(acts, comes(asksValue), comes("{ size }"), comes("{"), comes(asksSet), steps(4*i+1))
	}
	acts = append(acts, comes("{ size }"), comes(""), comes(asksValue), steps(60), ticks())
	v, codes := wantActsRun(t, acts)
	if len(v.Done) != 60 || v.Next != 61 || !slices.Equal(codes, append(make([]int, 75), full, full, full, impl.ErrNone, 0)) {
		t.Errorf("a full server: %v\n%s", codes, serverTold(v))
	}
}
