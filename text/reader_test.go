package text

import "testing"

func TestReaderReadsInTurn(t *testing.T) {
	r := Of([]byte("a b\n\xac\x02\n\x00"))
	if got := r.Line(); got != "a b" {
		t.Errorf("first line: %q", got)
	}
	if got := r.Delta(); got != 300 {
		t.Errorf("number: %d", got)
	}
	if got := r.Line(); got != "" || r.Failed() || r.Ended() {
		t.Errorf("empty line: %q, %v, %v", got, r.Failed(), r.Ended())
	}
	if got := r.Delta(); got != 0 || r.Failed() || !r.Ended() {
		t.Errorf("last number: %d, %v, %v", got, r.Failed(), r.Ended())
	}
}

func TestReaderOfNothing(t *testing.T) {
	r := Of(nil)
	if r.Failed() || !r.Ended() {
		t.Error("nothing is wrong with nothing")
	}
	if got := r.Line(); got != "" || !r.Failed() {
		t.Errorf("a line of nothing: %q, %v", got, r.Failed())
	}
}

func TestReaderThatFailedReadsNothing(t *testing.T) {
	for name, fail := range map[string]func(r *Reader){
		"a line without its end":  func(r *Reader) { r.Line(); r.Line() },
		"a number without an end": func(r *Reader) { r.Line(); r.Delta() },
		"what is not right":       func(r *Reader) { r.Need(false) },
		"not right, and right":    func(r *Reader) { r.Need(false); r.Need(true) },
	} {
		r := Of([]byte("a\n\x80\x80"))
		r.Need(true)
		if r.Failed() {
			t.Errorf("%s: failed beforehand", name)
		}
		if fail(r); !r.Failed() || !r.Ended() {
			t.Errorf("%s: %v, %v", name, r.Failed(), r.Ended())
		}
		if line, n := r.Line(), r.Delta(); line != "" || n != 0 {
			t.Errorf("%s: it reads %q and %d still", name, line, n)
		}
	}
}
