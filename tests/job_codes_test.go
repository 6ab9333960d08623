package tests

import (
	"cmp"
	"fmt"
	"testing"

	"loop.example/g00540/impl"
)

func isZeroJob(j impl.Job) bool {
	return j.Start == 0 && len(j.Doc.Defs)+len(j.Vars)+len(j.Log) == 0
}

// wantBadJob fails unless the job is none, and each call that takes it answers ErrBad alone.
func wantBadJob(t *testing.T, what string, s impl.Store, j impl.Job) {
	t.Helper()
	if impl.JobOK(s, j) {
		t.Errorf("JobOK of %s at %d by %s = true", what, j.Start, brief(j.Log))
	}
	if key, code := impl.NeedOf(s, j); key != 0 || code != impl.ErrBad {
		t.Errorf("NeedOf of %s = %d, %d", what, key, code)
	}
	if next, done, code := impl.StepJob(s, j); !isZeroJob(next) || done || code != impl.ErrBad {
		t.Errorf("StepJob of %s = %s, %v, %d", what, brief(next), done, code)
	}
	if again, code := impl.Restart(s, j); !isZeroJob(again) || code != impl.ErrBad {
		t.Errorf("Restart of %s = %s, %d", what, brief(again), code)
	}
	if next, ts, text, code := impl.FinishJob(s, j); len(next.Chains) > 0 || next.Now != 0 || ts != 0 || text != "" || code != impl.ErrBad {
		t.Errorf("FinishJob of %s = %s, %d, %q, %d", what, brief(next), ts, text, code)
	}
}

// wantNoJob fails unless the calls that take a document answer the code alone.
func wantNoJob(t *testing.T, what string, s impl.Store, d impl.Doc, vars []impl.Binding, want int) {
	t.Helper()
	if j, code := impl.NewJob(s, d, vars); !isZeroJob(j) || code != want {
		t.Errorf("NewJob of %s = %s, %d, want code %d", what, brief(j), code, want)
	}
	if n, code := impl.StepsOf(s, d, vars); n != 0 || code != want {
		t.Errorf("StepsOf of %s = %d, %d, want code %d", what, n, code, want)
	}
}

// Too many variables, then the store, then what chapter 10 tells.
func TestWhichCodeOfNewJobComesFirst(t *testing.T) {
	came := map[int]int{}
	for _, d := range runDocs(t) {
		for _, v := range varsCases() {
			for _, h := range hourCases() {
				if h.ts != h.s.Now {
					continue
				}
				want := cmp.Or(longCode(v), h.code, d.codeOf(v))
				came[want]++
				if want != impl.OK {
					wantNoJob(t, fmt.Sprintf("%s with %d variables", d.text, len(v.vars)), h.s, d.doc, v.vars, want)
					continue
				}
				wantNewJob(t, h.s, d.doc, v.vars)
				wantStepsOf(t, h.s, d.doc, v.vars, d.reads)
			}
		}
	}
	wantOften(t, came, impl.OK, impl.ErrBad, impl.ErrLong, impl.ErrMany, impl.ErrTwice, impl.ErrNone, impl.ErrField, impl.ErrArg, impl.ErrLeaf, impl.ErrFragment, impl.ErrCycle, impl.ErrMerge, impl.ErrVariable)
}

// In a job all faults are one: the store's, the hour's, the document's and the variables', these
// being too many too.
func TestJobsThatAreNotRight(t *testing.T) {
	came := map[bool]int{}
	for _, d := range runDocs(t) {
		for _, v := range varsCases() {
			for _, h := range hourCases() {
				right := cmp.Or(longCode(v), h.code, d.codeOf(v)) == impl.OK
				came[right]++
				j := impl.Job{Doc: d.doc, Vars: v.vars, Start: h.ts}
				if !right {
					wantBadJob(t, d.text, h.s, j)
					continue
				}
				if !impl.JobOK(h.s, j) {
					t.Errorf("JobOK of %s at %d = false", d.text, h.ts)
				}
				j.Log = make([]int, d.reads+1)
				wantBadJob(t, d.text+" by more than it needs", h.s, j)
			}
		}
	}
	if came[true] < 100 || came[false] < 1000 {
		t.Error("what is asked is of no use", came)
	}
}

// wantJobsOfNone fails unless no call takes the document and the variables, by themselves or in a job.
func wantJobsOfNone(t *testing.T, what string, d impl.Doc, vars []impl.Binding) {
	t.Helper()
	s := plainStore()
	wantNoJob(t, what, s, d, vars, impl.ErrBad)
	for _, log := range [][]int{nil, {0}, {hugeInt}} {
		wantBadJob(t, what, s, impl.Job{Doc: d, Vars: vars, Start: 3, Log: log})
	}
}

func TestJobsOfWhatIsNotRight(t *testing.T) {
	eachWrong(func(what string, d impl.Doc, vars []impl.Binding) { wantJobsOfNone(t, what, d, vars) })
	wantJobsOfNone(t, "nothing", impl.Doc{}, nil)
	wantBadJob(t, "nothing", impl.Store{}, impl.Job{})
	wantBadJob(t, "nothing", plainStore(), impl.Job{})
	// Too many variables for a list of its own are only wrong ones within a job.
	wantBadJob(t, "variables beyond MaxList", plainStore(), impl.Job{Doc: docWith(field("size")), Vars: manyBindings(impl.MaxList + 1)})
	wantBadJob(t, "a log beyond MaxList", plainStore(), impl.Job{Doc: docWith(field("size")), Log: make([]int, impl.MaxList+1)})
}

func TestJobsOfStoresThatAreNotRight(t *testing.T) {
	reads, bare := wantDocRead(t, "{ node(id: 1) { value next { id } } }"), docWith(field("size"))
	for _, s := range wrongStores() {
		wantNoJob(t, "a wrong store", s, reads, nil, impl.ErrBad)
		wantNoJob(t, "a wrong store", s, docWith(field("nothing")), nil, impl.ErrBad)
		wantNoJob(t, "a wrong store", s, bare, manyBindings(impl.MaxList+1), impl.ErrLong)
		for _, start := range []int{0, s.Now, -1} {
			wantBadJob(t, "a wrong store", s, impl.Job{Doc: bare, Start: start})
			wantBadJob(t, "a wrong store", s, impl.Job{Doc: reads, Start: start})
			wantBadJob(t, "a wrong store", s, impl.Job{Doc: reads, Start: start, Log: []int{0, 0}})
		}
	}
	for _, s := range rightStores() {
		wantNewJob(t, s, reads, nil)
		wantNewJob(t, s, bare, nil)
	}
}
