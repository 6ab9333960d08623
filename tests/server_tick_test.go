package tests

import (
	"testing"

	"loop.example/g00540/impl"
)

// wantTicked fails unless so many versions go, those that Forget lets go at the watermark, and all
// else is as it was.
func wantTicked(t *testing.T, v impl.Server, low, want int) impl.Server {
	t.Helper()
	if got, code := impl.Watermark(v); got != low || code != impl.OK {
		t.Errorf("Watermark = %d, %d, want %d", got, code, low)
	}
	rest := wantForgotten(t, v.Store, low, want)
	x, gone, code := impl.Tick(v)
	if gone != want || code != impl.OK || !impl.ServerOK(x) {
		t.Errorf("Tick = %d, %d, want %d", gone, code, want)
	}
	same := v
	same.Store = rest
	wantServer(t, "Tick", x, same)
	wantOwnMemory(t, "Tick", x, v)
	return x
}

// The least start, wherever it stands, or Now.
func TestWatermark(t *testing.T) {
	s := plainStore()
	start := func(id, start int) impl.Live {
		return liveOf(t, s, id, 0, 0, "{ node(id: 2) { next { value } } }", start, 0)
	}
	for _, c := range []struct {
		low    int
		starts []int
	}{
		{9, nil}, {0, []int{0}}, {4, []int{4}}, {9, []int{9}}, {0, []int{9, 0}}, {0, []int{0, 9}}, {8, []int{9, 8}}, {8, []int{8, 9, 9}}, {3, []int{5, 3, 4}}, {3, []int{3, 5, 4}}, {3, []int{5, 4, 3}}, {1, []int{9, 9, 9, 1}}, {1, []int{1, 1, 1, 1}}, {5, []int{5, 6, 7, 8}}, {9, []int{9, 9, 9, 9}},
	} {
		v := impl.Server{Store: s, Next: 9}
		for i, at := range c.starts {
			v.Live = append(v.Live, start(i+1, at))
		}
		v.Done = []impl.Done{doneOf(t, 7, 0, 0, false, "{ size }", ""), failedOf(6, 0, impl.ErrForm)}
		gone := []int{0, 0, 1, 3, 4, 6, 8, 10, 12, 13}[c.low]
		x := wantTicked(t, v, c.low, gone)
		wantTicked(t, x, c.low, 0)
	}
	for _, now := range []int{0, 1, 500, impl.MaxTime} {
		if low, code := impl.Watermark(impl.Server{Store: storeAt(now, nil), Next: 1}); low != now || code != impl.OK {
			t.Errorf("Watermark at Now %d = %d, %d", now, low, code)
		}
	}
}

// Once nobody is live the store keeps one version a key.
func TestTicksByHand(t *testing.T) {
	v := wantTicked(t, impl.NewServer(), 0, 0)
	for i := range 5 {
		v = wantAnswered(t, v, asksSet, `{"data":{"set":{"value":5}}}`, put(2, 5))
		if i == 1 {
			v = wantLive(t, v, asksValue)
			v = wantLive(t, v, asksSum)
		}
	}
	v = wantTicked(t, v, 2, 1)
	v = wantTicked(t, v, 2, 0)
	// Who wrote was refused, and began anew at 5.
	v = wantStepped(t, v, 4)
	v = wantTicked(t, v, 2, 0)
	v = wantStepped(t, v, 3)
	wantAnswerTo(t, v, 3, `{"data":{"node":{"value":5}}}`)
	v = wantTicked(t, v, 5, 3)
	v = wantStepped(t, v, 4)
	wantAnswerTo(t, v, 4, `{"data":{"add":{"value":7}}}`)
	v = wantTicked(t, v, 6, 1)
	wantStore(t, "the store at the end", v.Store, storeWith(6, 2, impl.Version{Ts: 6, Value: 7}))
	wantTicked(t, v, 6, 0)
}

// What is forgotten nobody that is live reads: all that they are told and leave is as if it were there.
func TestTicksAreNotSeen(t *testing.T) {
	v := busyServer(t)
	x := wantTicked(t, v, 2, 1)
	for _, step := range []struct{ id, low, gone int }{{12, 2, 0}, {19, 2, 0}, {12, 2, 0}, {3, 2, 0}, {12, 2, 0}, {12, 2, 0}, {12, 4, 3}, {19, 10, 10}} {
		v, x = wantStepped(t, v, step.id), wantTicked(t, wantStepped(t, x, step.id), step.low, step.gone)
		wantSameAt(t, v.Store, x.Store, true)
		same := v
		same.Store = x.Store
		wantServer(t, "a server that forgot", x, same)
	}
	wantIds(t, x)
	wantAnswerTo(t, x, 12, `{"data":{"nodes":[{"value":20},{"value":10},{"value":20},{"value":0},{"value":0},{"value":0},{"value":0},{"value":0}]}}`)
	wantAnswerTo(t, x, 19, `{"data":{"node":{"next":{"value":30}}}}`)
	wantAnswerTo(t, x, 3, `{"data":{"add":{"value":91,"next":null}}}`)
}

func TestLiveIds(t *testing.T) {
	wantIds(t, impl.NewServer())
	wantIds(t, busyServer(t), 12, 3, 19)
	wantIds(t, crowded(t, 0, 60))
	wantIds(t, crowded(t, 4, 56), 57, 58, 59, 60)
	v := wantCancelled(t, busyServer(t), 3)
	wantIds(t, v, 12, 19)
	wantIds(t, wantLive(t, v, asksValue), 12, 19, 20)
	wantIds(t, wantLive(t, wantLive(t, v, asksValue), asksSum), 12, 19, 20, 21)
	ids, _ := impl.LiveIds(v)
	again, _ := impl.LiveIds(v)
	wantOwnMemory(t, "LiveIds", ids, again, v)
}

func TestAnswerTo(t *testing.T) {
	v := busyServer(t)
	for _, d := range v.Done {
		wantAnswerTo(t, v, d.Id, d.Text)
	}
	wantNoAnswer(t, v, 12, 3, 19, 4, 8, 20, 21, 0, -1, hugeInt, tinyInt)
	wantNoAnswer(t, impl.NewServer(), 0, 1, 2, -1)
	for _, answer := range []string{"", "x", "\x00", filled("\t", 999999), filled("\t", 1000000)} {
		v.Done[2].Text = answer
		wantAnswerTo(t, v, 1, answer)
		wantAnswerTo(t, v, 7, v.Done[0].Text)
	}
	full := crowded(t, 4, 56)
	for _, d := range full.Done {
		wantAnswerTo(t, full, d.Id, d.Text)
	}
	wantNoAnswer(t, full, 57, 58, 59, 60, 61)
	// By the id, not by the place.
	v = crowded(t, 0, 3)
	v.Done[0].Text, v.Done[2].Text = "first", "third"
	wantAnswerTo(t, v, 3, "first")
	wantAnswerTo(t, v, 1, "third")
	text, _ := impl.AnswerTo(v, 3)
	again, _ := impl.AnswerTo(v, 3)
	wantOwnMemory(t, "AnswerTo", text, again, v)
}
