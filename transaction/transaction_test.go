package transaction

import (
	"maps"
	"slices"
	"testing"
	"unsafe"

	"concord/api"
	"concord/store"
)

// base has versions at 3 (a, b), 5 (a gone, c) and 7 (a again, d).
func base() *store.Store {
	s := store.New()
	s.Add("a", 3, store.Filled("a3"))
	s.Add("b", 3, store.Filled("b3"))
	s.Add("a", 5, store.Cell{})
	s.Add("c", 5, store.Filled("c5"))
	s.Add("a", 7, store.Filled("a7"))
	s.Add("d", 7, store.Filled("d7"))
	return s
}

func TestP3SeesItsStart(t *testing.T) {
	for start, want := range map[int][]api.Item{
		2: nil,
		3: {{Key: "a", Value: "a3"}, {Key: "b", Value: "b3"}},
		4: {{Key: "a", Value: "a3"}, {Key: "b", Value: "b3"}},
		5: {{Key: "b", Value: "b3"}, {Key: "c", Value: "c5"}},
		8: {{Key: "a", Value: "a7"}, {Key: "b", Value: "b3"}, {Key: "c", Value: "c5"}, {Key: "d", Value: "d7"}},
	} {
		tr := New(start, base())
		if items := tr.Scan(""); !slices.Equal(items, want) {
			t.Errorf("a scan from %d: %v, want %v", start, items, want)
		}
		for _, item := range want {
			if cell := tr.Get(item.Key); cell != store.Filled(item.Value) {
				t.Errorf("%q from %d: %+v, want %q", item.Key, start, cell, item.Value)
			}
		}
	}
	if cell := New(5, base()).Get("a"); cell.Found {
		t.Errorf("a deleted key is seen: %+v", cell)
	}
}

func TestP3OwnWritesHideTheStore(t *testing.T) {
	tr := New(4, base())
	tr.Put("a", "own")
	tr.Del("b")
	tr.Put("aa", "")
	want := []api.Item{{Key: "a", Value: "own"}, {Key: "aa", Value: ""}}
	if items := tr.Scan(""); !slices.Equal(items, want) {
		t.Errorf("%v, want %v", items, want)
	}
	if a, b := tr.Get("a"), tr.Get("b"); a != store.Filled("own") || b.Found {
		t.Errorf("a: %+v, b: %+v", a, b)
	}
	tr.Put("b", "back")
	if b := tr.Get("b"); b != store.Filled("back") {
		t.Errorf("b: %+v", b)
	}
}

func TestP3WhatJoinsTheReadSet(t *testing.T) {
	tr := New(4, base())
	tr.Put("p", "x")
	tr.Del("q")
	if len(tr.keys)+len(tr.prefixes) != 0 {
		t.Errorf("writes joined the read set: %v %v", tr.keys, tr.prefixes)
	}
	for _, key := range []string{"a", "p", "none", "a"} {
		tr.Get(key)
	}
	for _, prefix := range []string{"", "a", "far too long for a key"} {
		tr.Scan(prefix)
	}
	if keys := slices.Sorted(maps.Keys(tr.keys)); !slices.Equal(keys, []string{"a", "none", "p"}) {
		t.Errorf("keys: %q", keys)
	}
	if prefixes := slices.Sorted(maps.Keys(tr.prefixes)); !slices.Equal(prefixes, []string{"", "a", "far too long for a key"}) {
		t.Errorf("prefixes: %q", prefixes)
	}
}

func TestP4HasRead(t *testing.T) {
	tr := New(4, base())
	tr.Put("a", "x")
	tr.Del("b")
	if tr.HasRead() || tr.HasReadKey("a") || tr.HasReadKey("b") {
		t.Error("writes were taken for reads")
	}
	tr.Get("ab")
	for key, want := range map[string]bool{"ab": true, "a": false, "abc": false, "b": false, "Ab": false} {
		if tr.HasReadKey(key) != want {
			t.Errorf("behind a GET of ab, %q read: %v", key, !want)
		}
	}
	tr.Scan("p\xff")
	for key, want := range map[string]bool{"p\xff": true, "p\xff\x00": true, "p\xffp\xffp\xffp": true, "p": false, "p\xfe": false, "q": false, "ap\xff": false} {
		if tr.HasReadKey(key) != want {
			t.Errorf("behind a SCAN, %q read: %v", key, !want)
		}
	}
	tr.Scan("far too long for a key")
	if tr.HasReadKey("f") || tr.HasReadKey("far too ") {
		t.Error("a prefix of a prefix was taken for it")
	}
	tr.Scan("")
	if !tr.HasReadKey("anything") {
		t.Error("the empty prefix did not join")
	}
}

func TestP4OneReadIsEnough(t *testing.T) {
	got, scanned := New(4, base()), New(4, base())
	got.Get("none")
	scanned.Scan("")
	if !got.HasRead() || !scanned.HasRead() {
		t.Errorf("GET %v, SCAN %v", got.HasRead(), scanned.HasRead())
	}
}

func TestP4Writes(t *testing.T) {
	tr := New(4, base())
	tr.Get("a")
	if tr.Start() != 4 || len(tr.Writes()) != 0 || tr.Queued {
		t.Errorf("start %d, writes %v, queued %v", tr.Start(), tr.Writes(), tr.Queued)
	}
	tr.Put("a", "x")
	tr.Put("b", "y")
	tr.Del("b")
	tr.Put("a", "z")
	want := map[string]store.Cell{"a": store.Filled("z"), "b": {}}
	if !maps.Equal(tr.Writes(), want) {
		t.Errorf("%v, want %v", tr.Writes(), want)
	}
}

// TestP2TextsAreCopied writes into the bytes of the texts that went in.
func TestP2TextsAreCopied(t *testing.T) {
	bytes := []byte("keyvalue")
	key, value := unsafe.String(&bytes[0], 3), unsafe.String(&bytes[3], 5)
	tr := New(4, base())
	tr.Put(key, value)
	items := tr.Scan("k")
	copy(bytes, "????????")
	if want := []api.Item{{Key: "key", Value: "value"}}; !slices.Equal(items, want) {
		t.Errorf("%v, want %v", items, want)
	}
}
