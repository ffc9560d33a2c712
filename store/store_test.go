package store

import (
	"fmt"
	"hash/fnv"
	"math"
	"math/big"
	"slices"
	"strings"
	"testing"

	"crossroad/api"
)

// Keys whose shards are 0, 1, 2 and 3.
var keyOf = [api.Shards]string{"d", "a", "b", "c"}

// noOwners: nobody may be one of these.
var noOwners = []int{0, -1, -2, math.MinInt}

// noShards: there are none of these numbers.
var noShards = []int{-1, -4, 4, 5, 8, math.MinInt, math.MaxInt}

// sameShard: so many keys of that shard, rising.
func sameShard(t *testing.T, shard, n int) []string {
	t.Helper()
	var l []string
	for a := range 26 {
		for b := range 26 {
			key := "k" + string(rune('a'+a)) + string(rune('a'+b))
			if len(l) < n && Shard(key) == shard {
				l = append(l, key)
			}
		}
	}
	if len(l) != n {
		t.Fatalf("%d keys of shard %d, want %d", len(l), shard, n)
	}
	return l
}

// locks: has somebody all shards of a store from now on?
func locks(t *testing.T, s *Store, owner int) {
	t.Helper()
	for i := range api.Shards {
		if !s.Lock(owner, i) {
			t.Fatalf("Lock(%d, %d) = false", owner, i)
		}
	}
}

// locked: an empty store, all of its shards somebody's.
func locked(t *testing.T, owner int) *Store {
	t.Helper()
	s := New()
	locks(t, s, owner)
	return s
}

func puts(t *testing.T, s *Store, owner int, key, value, tag string, there bool) {
	t.Helper()
	if was, e := s.Put(owner, key, value, tag); was != there || e != api.OK {
		t.Errorf("Put(%d, %q, %q, %q) = %v, %d, want %v", owner, key, value, tag, was, e, there)
	}
}

func putFails(t *testing.T, s *Store, owner int, key, value, tag string, want api.Errno) {
	t.Helper()
	if was, e := s.Put(owner, key, value, tag); was || e != want {
		t.Errorf("Put(%d, %q, %q, %q) = %v, %d, want false, %d", owner, key, value, tag, was, e, want)
	}
}

func gets(t *testing.T, s *Store, owner int, key, value string) {
	t.Helper()
	if v, e := s.Get(owner, key); v != value || e != api.OK {
		t.Errorf("Get(%d, %q) = %q, %d, want %q", owner, key, v, e, value)
	}
}

func getFails(t *testing.T, s *Store, owner int, key string, want api.Errno) {
	t.Helper()
	if v, e := s.Get(owner, key); v != "" || e != want {
		t.Errorf("Get(%d, %q) = %q, %d, want %d", owner, key, v, e, want)
	}
}

func deletes(t *testing.T, s *Store, owner int, key, tag string, want api.Errno) {
	t.Helper()
	if e := s.Delete(owner, key, tag); e != want {
		t.Errorf("Delete(%d, %q, %q) = %d, want %d", owner, key, tag, e, want)
	}
}

func lists(t *testing.T, s *Store, owner int, prefix string, keys ...string) {
	t.Helper()
	if l, e := s.List(owner, prefix); !slices.Equal(l, keys) || e != api.OK {
		t.Errorf("List(%d, %q) = %q, %d, want %q", owner, prefix, l, e, keys)
	}
}

func listFails(t *testing.T, s *Store, owner int, prefix string) {
	t.Helper()
	if l, e := s.List(owner, prefix); len(l) > 0 || e != api.ErrWait {
		t.Errorf("List(%d, %q) = %q, %d, want 7", owner, prefix, l, e)
	}
}

// holds: are these shards, and no others, somebody's?
func holds(t *testing.T, s *Store, owner int, shards ...int) {
	t.Helper()
	if n := s.Held(owner); n != len(shards) {
		t.Errorf("Held(%d) = %d, want %d", owner, n, len(shards))
	}
	for i := range api.Shards {
		_, e := s.Get(owner, keyOf[i])
		if theirs := e != api.ErrWait; theirs != slices.Contains(shards, i) {
			t.Errorf("is shard %d that of %d? %v", i, owner, theirs)
		}
	}
}

// A pair is a key and its value.
type pair struct{ key, value string }

// has: are these pairs, their keys rising, and no others in a store? Nobody has a shard of it behind that.
func has(t *testing.T, s *Store, owners []int, l ...pair) {
	t.Helper()
	for _, o := range owners {
		s.Unlock(o)
	}
	const asker = 99
	locks(t, s, asker)
	var keys []string
	for _, p := range l {
		keys = append(keys, p.key)
		gets(t, s, asker, p.key, p.value)
	}
	lists(t, s, asker, "", keys...)
	s.Unlock(asker)
}

// eachText: calls f with all texts of these bytes, up to that length.
func eachText(bytes string, length int, f func(string)) {
	var from func(s string)
	from = func(s string) {
		f(s)
		if len(s) < length {
			for i := range len(bytes) {
				from(s + bytes[i:i+1])
			}
		}
	}
	from("")
}

// everyByte: each byte once.
func everyByte() string {
	var b []byte
	for i := range 256 {
		b = append(b, byte(i))
	}
	return string(b)
}

// plainShard: a key's shard, reckoned whole and brought down at the end alone.
func plainShard(key string) int {
	n := new(big.Int)
	for i := range len(key) {
		n.Mul(n, big.NewInt(31))
		n.Add(n, big.NewInt(int64(key[i])))
	}
	n.Mod(n, big.NewInt(997))
	return int(n.Int64()) % 4
}

func plainTag(value string) string {
	h := fnv.New32a()
	h.Write([]byte(value))
	return fmt.Sprintf("%x-%d", h.Sum32(), len(value))
}

func TestShard(t *testing.T) {
	for key, want := range map[string]int{
		"": 0, "\x00": 0, "\x01": 1, "\x02": 2, "\x03": 3, "\x04": 0,
		"a": 1, "b": 2, "c": 3, "d": 0, "\x7f": 3, "\x80": 0, "\xff": 3,
		"\x00a": 1, "aa": 1, // 3104, which is 113
		" \x05":        0, // 997, which is 0
		"!\xff":        1, // 1278, which is 281
		"\x01\x00\x00": 1, // 961
		"\x01\x01\x05": 0, // 997
		"abc":          2, // 114 times 31 and 99: 3633, which is 642
	} {
		if got := Shard(key); got != want || plainShard(key) != want {
			t.Errorf("Shard(%q) = %d, want %d (%d)", key, got, want, plainShard(key))
		}
	}
}

func TestShardOfAllShortKeys(t *testing.T) {
	eachText(everyByte(), 2, func(key string) {
		if got, want := Shard(key), plainShard(key); got != want {
			t.Fatalf("Shard(%q) = %d, want %d", key, got, want)
		}
	})
	eachText("\x00\x01 0aZ\x7f\x80\xff", 4, func(key string) {
		if got, want := Shard(key), plainShard(key); got != want {
			t.Fatalf("Shard(%q) = %d, want %d", key, got, want)
		}
	})
}

func TestShardOfLongKeys(t *testing.T) {
	for _, n := range []int{5, 6, 10, 13, 14, 20, 39, 40, 41, 100, 10000} {
		for _, part := range []string{"\xff", "\x80", "a", "\x00", "a\xff", "long key "} {
			key := strings.Repeat(part, n)
			if got, want := Shard(key), plainShard(key); got != want {
				t.Errorf("Shard(%d times %q) = %d, want %d", n, part, got, want)
			}
		}
	}
}

func TestTag(t *testing.T) {
	for value, want := range map[string]string{
		"": "811c9dc5-0", "a": "e40c292c-1", "foobar": "bf9cf968-6", "\xff": "7a0b824e-1",
		// Hashes that begin with noughts: a number has none ahead.
		"akd": "d368b73-3", "cfx": "76912c-3", "qek": "87470-3", "63533": "36ff-5", "12720": "16d-5",
		"\xcc\x24\x31\xc4": "0-4",
	} {
		if got := Tag(value); got != want || plainTag(value) != want {
			t.Errorf("Tag(%q) = %q, want %q (%q)", value, got, want, plainTag(value))
		}
	}
}

func TestTagOfAllShortValues(t *testing.T) {
	eachText(everyByte(), 2, func(value string) {
		if got, want := Tag(value), plainTag(value); got != want {
			t.Fatalf("Tag(%q) = %q, want %q", value, got, want)
		}
	})
}

func TestTagOfLongValues(t *testing.T) {
	for _, n := range []int{3, 9, 10, 15, 16, 99, 100, 600, 601, 70000} {
		for _, part := range []string{"\xff", "\x80", "a", "\x00", "\r\n", "\u00e9"} {
			value := strings.Repeat(part, n)
			if got, want := Tag(value), plainTag(value); got != want {
				t.Errorf("Tag(%d times %q) = %q, want %q", n, part, got, want)
			}
		}
	}
}

func TestRight(t *testing.T) {
	for n := range 100 {
		for _, part := range []string{"a", "\x00", "\xff", "/"} {
			if got, want := Right(strings.Repeat(part, n)), n >= 1 && n <= 40; got != want {
				t.Errorf("Right(%d times %q) = %v", n, part, got)
			}
		}
	}
	for i := range 256 {
		if !Right(string([]byte{byte(i)})) {
			t.Errorf("Right of byte %d = false", i)
		}
	}
	// Bytes are counted, not runes.
	if !Right(strings.Repeat("\u00e9", 20)) || Right(strings.Repeat("\u00e9", 21)) || Right(strings.Repeat("\u4e16", 14)) {
		t.Error("runes of several bytes")
	}
	if Right(strings.Repeat("a", 100000)) {
		t.Error("Right of 100000 bytes")
	}
}

func TestNew(t *testing.T) {
	s := New()
	for i := range api.Shards {
		for _, owner := range []int{1, 2, 5, math.MaxInt} {
			if !s.Free(owner, i) || s.Held(owner) != 0 {
				t.Errorf("shard %d is somebody's, not that of %d", i, owner)
			}
		}
	}
	has(t, s, nil)
}

func TestLock(t *testing.T) {
	for i := range api.Shards {
		for _, owner := range []int{1, 2, 3, 4, 5, 1000, math.MaxInt} {
			s := New()
			holds(t, s, owner)
			for range 3 {
				if !s.Lock(owner, i) {
					t.Errorf("Lock(%d, %d) = false", owner, i)
				}
				holds(t, s, owner, i)
			}
		}
	}
}

func TestLockOfAnothersShard(t *testing.T) {
	for i := range api.Shards {
		s := New()
		s.Lock(1, i)
		for range 3 {
			if s.Lock(2, i) || s.Free(2, i) {
				t.Errorf("shard %d is that of 1, and 2 may have it", i)
			}
			holds(t, s, 1, i)
			holds(t, s, 2)
		}
		s.Unlock(1)
		if !s.Free(2, i) || !s.Lock(2, i) || s.Lock(1, i) {
			t.Errorf("shard %d was given back, and 2 may not have it", i)
		}
		holds(t, s, 1)
		holds(t, s, 2, i)
	}
}

func TestLockOfNoOwner(t *testing.T) {
	for _, owner := range noOwners {
		s := New()
		s.Lock(1, 0)
		for i := range api.Shards {
			if s.Free(owner, i) || s.Lock(owner, i) {
				t.Errorf("%d may have shard %d", owner, i)
			}
		}
		holds(t, s, owner)
		holds(t, s, 1, 0)
	}
}

func TestLockOfNoShard(t *testing.T) {
	for _, i := range noShards {
		for _, owner := range append([]int{1, 2, math.MaxInt}, noOwners...) {
			s := New()
			if s.Free(owner, i) || s.Lock(owner, i) {
				t.Errorf("%d may have shard %d", owner, i)
			}
			holds(t, s, owner)
		}
	}
}

func TestFreeLocksNothing(t *testing.T) {
	s := New()
	for range 2 {
		for i := range api.Shards {
			if !s.Free(1, i) || !s.Free(2, i) {
				t.Errorf("shard %d isn't free", i)
			}
		}
		holds(t, s, 1)
		holds(t, s, 2)
	}
	s.Lock(1, 2)
	if !s.Free(1, 2) || s.Free(2, 2) || !s.Free(2, 1) {
		t.Error("shard 2 is that of 1, shard 1 nobody's")
	}
	holds(t, s, 1, 2)
}

func TestUnlock(t *testing.T) {
	s := New()
	for i, owner := range []int{1, 2, 1, 3} {
		s.Lock(owner, i)
	}
	s.Unlock(4)
	for _, owner := range noOwners {
		s.Unlock(owner)
	}
	holds(t, s, 1, 0, 2)
	holds(t, s, 2, 1)
	holds(t, s, 3, 3)
	for range 2 {
		s.Unlock(1)
		holds(t, s, 1)
		holds(t, s, 2, 1)
		holds(t, s, 3, 3)
	}
	if !s.Free(2, 0) || !s.Free(2, 2) || s.Free(1, 1) || s.Free(1, 3) {
		t.Error("1 gave back 0 and 2 alone")
	}
	s.Unlock(3)
	holds(t, s, 2, 1)
	holds(t, s, 3)
}

func TestUnlockGivesAllBack(t *testing.T) {
	s := locked(t, 7)
	holds(t, s, 7, 0, 1, 2, 3)
	s.Unlock(7)
	holds(t, s, 7)
	locks(t, s, 8)
	holds(t, s, 8, 0, 1, 2, 3)
}

func TestUnlockLeavesValues(t *testing.T) {
	s := locked(t, 1)
	puts(t, s, 1, "a", "x", "", false)
	puts(t, s, 1, "b", "y", "", false)
	s.Unlock(1)
	has(t, s, nil, pair{"a", "x"}, pair{"b", "y"})
}

func TestHeld(t *testing.T) {
	s := New()
	for i := range api.Shards {
		if n := s.Held(1); n != i {
			t.Errorf("Held(1) = %d, want %d", n, i)
		}
		s.Lock(1, i)
	}
	if s.Held(1) != 4 || s.Held(2) != 0 {
		t.Errorf("Held(1) = %d, Held(2) = %d", s.Held(1), s.Held(2))
	}
	for _, owner := range noOwners {
		if n := s.Held(owner) + New().Held(owner); n != 0 {
			t.Errorf("Held(%d) = %d", owner, n)
		}
	}
}

func TestValuesInEachShard(t *testing.T) {
	for i, key := range keyOf {
		if Shard(key) != i {
			t.Fatalf("Shard(%q) = %d, want %d", key, Shard(key), i)
		}
		s := New()
		s.Lock(1, i)
		getFails(t, s, 1, key, api.ErrNone)
		puts(t, s, 1, key, "one", "", false)
		gets(t, s, 1, key, "one")
		puts(t, s, 1, key, "two", "", true)
		gets(t, s, 1, key, "two")
		gets(t, s, 1, key, "two")
		deletes(t, s, 1, key, "", api.OK)
		getFails(t, s, 1, key, api.ErrNone)
		deletes(t, s, 1, key, "", api.ErrNone)
		puts(t, s, 1, key, "three", "", false)
		gets(t, s, 1, key, "three")
		has(t, s, []int{1}, pair{key, "three"})
	}
}

func TestEmptyValue(t *testing.T) {
	s := locked(t, 1)
	puts(t, s, 1, "a", "", "", false)
	gets(t, s, 1, "a", "")
	lists(t, s, 1, "", "a")
	puts(t, s, 1, "a", "", Tag(""), true)
	puts(t, s, 1, "a", "x", "811c9dc5-0", true)
	puts(t, s, 1, "a", "", Tag("x"), true)
	deletes(t, s, 1, "a", Tag(""), api.OK)
	getFails(t, s, 1, "a", api.ErrNone)
}

func TestKeysAreBytes(t *testing.T) {
	s := locked(t, 1)
	for _, key := range []string{"\x00", "\xff", "a", "A", "/", " ", "a\x00", "\u00e9"} {
		getFails(t, s, 1, key, api.ErrNone)
		puts(t, s, 1, key, key+"\r\n\xfe", "", false)
	}
	for _, key := range []string{"\x00", "\xff", "a", "A", "/", " ", "a\x00", "\u00e9"} {
		gets(t, s, 1, key, key+"\r\n\xfe")
	}
	lists(t, s, 1, "", "\x00", " ", "/", "A", "a", "a\x00", "\u00e9", "\xff")
}

func TestLongValues(t *testing.T) {
	s := locked(t, 1)
	for i, n := range []int{600, 601, 100000} {
		v := strings.Repeat("v", n)
		puts(t, s, 1, keyOf[i], v, "", false)
		gets(t, s, 1, keyOf[i], v)
		puts(t, s, 1, keyOf[i], v+"w", Tag(v), true)
		gets(t, s, 1, keyOf[i], v+"w")
	}
}

func TestKeysOfEachLength(t *testing.T) {
	for n := range 60 {
		key := strings.Repeat("k", n)
		s := locked(t, 1)
		if n == 0 || n > 40 {
			getFails(t, s, 1, key, api.ErrArg)
			putFails(t, s, 1, key, "v", "", api.ErrArg)
			putFails(t, s, 1, key, "v", "x", api.ErrArg)
			deletes(t, s, 1, key, "", api.ErrArg)
			deletes(t, s, 1, key, "x", api.ErrArg)
			lists(t, s, 1, "")
			continue
		}
		getFails(t, s, 1, key, api.ErrNone)
		puts(t, s, 1, key, "v", "", false)
		gets(t, s, 1, key, "v")
		lists(t, s, 1, key, key)
		deletes(t, s, 1, key, "", api.OK)
	}
}

// waits: whose key it isn't can't do anything with it, whatever else is wrong.
func waits(t *testing.T, s *Store, owner int, key string) {
	t.Helper()
	getFails(t, s, owner, key, api.ErrWait)
	for _, tag := range []string{"", "x", Tag("v")} {
		putFails(t, s, owner, key, "w", tag, api.ErrWait)
		deletes(t, s, owner, key, tag, api.ErrWait)
	}
}

func TestNotTheirs(t *testing.T) {
	for i, key := range keyOf {
		for _, full := range []bool{false, true} {
			s := New()
			s.Lock(1, i)
			var want []pair
			for _, k := range sameShard(t, i, 8) {
				if full {
					puts(t, s, 1, k, "v", "", false)
					want = append(want, pair{k, "v"})
				}
			}
			if !full {
				puts(t, s, 1, key, "v", "", false)
				want = []pair{{key, "v"}}
			}
			for _, owner := range append([]int{2, math.MaxInt}, noOwners...) {
				waits(t, s, owner, key)
				waits(t, s, owner, want[0].key)
			}
			// All but that one.
			for k := range api.Shards {
				s.Lock(2, k)
			}
			waits(t, s, 2, key)
			s.Unlock(1)
			for _, owner := range append([]int{1, 2, 3}, noOwners...) {
				waits(t, s, owner, key)
				waits(t, s, owner, want[0].key)
			}
			has(t, s, []int{2}, want...)
		}
	}
}

func TestWrongKeyAheadOfWaiting(t *testing.T) {
	for _, key := range []string{"", strings.Repeat("k", 41), strings.Repeat("d", 41), strings.Repeat("k", 1000)} {
		for _, owner := range append([]int{1, 2}, noOwners...) {
			for _, theirs := range []bool{false, true} {
				s := New()
				if theirs {
					locks(t, s, 2)
				}
				getFails(t, s, owner, key, api.ErrArg)
				for _, tag := range []string{"", "x"} {
					putFails(t, s, owner, key, "v", tag, api.ErrArg)
					deletes(t, s, owner, key, tag, api.ErrArg)
				}
				has(t, s, []int{2})
			}
		}
	}
}

// otherTags: none of these is that of "v", nor empty.
func otherTags() []string {
	tag := Tag("v")
	return []string{
		"x", "-", "0", " ", "v", Tag(""), Tag("w"), Tag("vv"), tag + " ", " " + tag, tag + "0", "0" + tag,
		tag[1:], tag[:len(tag)-1], strings.ToUpper(tag), `"` + tag + `"`, "*", "\x00", strings.Repeat("x", 1000),
	}
}

func TestTagsOfNoValue(t *testing.T) {
	for _, key := range keyOf {
		s := locked(t, 1)
		for _, tag := range append(otherTags(), Tag("v")) {
			putFails(t, s, 1, key, "v", tag, api.ErrTag)
			deletes(t, s, 1, key, tag, api.ErrNone)
			getFails(t, s, 1, key, api.ErrNone)
		}
		deletes(t, s, 1, key, "", api.ErrNone)
		lists(t, s, 1, "")
		// Nor of one that was there.
		puts(t, s, 1, key, "v", "", false)
		deletes(t, s, 1, key, "", api.OK)
		putFails(t, s, 1, key, "v", Tag("v"), api.ErrTag)
		deletes(t, s, 1, key, Tag("v"), api.ErrNone)
		lists(t, s, 1, "")
	}
}

func TestTagsOfAnotherValue(t *testing.T) {
	for _, key := range keyOf {
		s := locked(t, 1)
		puts(t, s, 1, key, "v", "", false)
		for _, tag := range otherTags() {
			putFails(t, s, 1, key, "w", tag, api.ErrTag)
			deletes(t, s, 1, key, tag, api.ErrTag)
			gets(t, s, 1, key, "v")
		}
		lists(t, s, 1, "", key)
		puts(t, s, 1, key, "w", Tag("v"), true)
		gets(t, s, 1, key, "w")
		// Its tag is that of what it has now, not of what it had, nor of what is put.
		putFails(t, s, 1, key, "v", Tag("v"), api.ErrTag)
		deletes(t, s, 1, key, Tag("v"), api.ErrTag)
		gets(t, s, 1, key, "w")
		deletes(t, s, 1, key, Tag("w"), api.OK)
		lists(t, s, 1, "")
	}
}

// A key's tag tells nothing of another key's value.
func TestTagOfAnotherKey(t *testing.T) {
	s := locked(t, 1)
	puts(t, s, 1, "a", "x", "", false)
	puts(t, s, 1, "b", "y", "", false)
	putFails(t, s, 1, "a", "z", Tag("y"), api.ErrTag)
	deletes(t, s, 1, "b", Tag("x"), api.ErrTag)
	putFails(t, s, 1, "c", "z", Tag("x"), api.ErrTag)
	has(t, s, []int{1}, pair{"a", "x"}, pair{"b", "y"})
}

func TestTagOfHashWithNoughts(t *testing.T) {
	s := locked(t, 1)
	puts(t, s, 1, "a", "cfx", "", false)
	putFails(t, s, 1, "a", "w", "0076912c-3", api.ErrTag)
	deletes(t, s, 1, "a", "0076912c-3", api.ErrTag)
	puts(t, s, 1, "a", "akd", "76912c-3", true)
	deletes(t, s, 1, "a", "d368b73-3", api.OK)
}

func TestFullShard(t *testing.T) {
	for shard := range api.Shards {
		s := locked(t, 1)
		keys := sameShard(t, shard, 10)
		for _, key := range keys[:8] {
			puts(t, s, 1, key, "v", "", false)
		}
		putFails(t, s, 1, keys[8], "v", "", api.ErrFull)
		putFails(t, s, 1, keys[9], "v", "", api.ErrFull)
		// What has no value has no tag, and that is told first.
		putFails(t, s, 1, keys[8], "v", "x", api.ErrTag)
		putFails(t, s, 1, keys[8], "v", Tag("v"), api.ErrTag)
		getFails(t, s, 1, keys[8], api.ErrNone)
		deletes(t, s, 1, keys[8], "", api.ErrNone)
		lists(t, s, 1, "", keys[:8]...)
		// What is there may be put anew.
		for _, key := range keys[:8] {
			puts(t, s, 1, key, "w", "", true)
			puts(t, s, 1, key, "x", Tag("w"), true)
			putFails(t, s, 1, key, "y", Tag("w"), api.ErrTag)
			gets(t, s, 1, key, "x")
		}
		// Others have room of their own.
		for i, key := range keyOf {
			if i != shard {
				puts(t, s, 1, key, "v", "", false)
			}
		}
	}
}

func TestRoomBehindDelete(t *testing.T) {
	for shard := range api.Shards {
		for gone := range 8 {
			s := locked(t, 1)
			keys := sameShard(t, shard, 10)
			for _, key := range keys[:8] {
				puts(t, s, 1, key, "v", "", false)
			}
			deletes(t, s, 1, keys[gone], "x", api.ErrTag)
			putFails(t, s, 1, keys[8], "v", "", api.ErrFull)
			deletes(t, s, 1, keys[gone], "", api.OK)
			puts(t, s, 1, keys[8], "v", "", false)
			putFails(t, s, 1, keys[9], "v", "", api.ErrFull)
			putFails(t, s, 1, keys[gone], "v", "", api.ErrFull)
			lists(t, s, 1, "", slices.Delete(slices.Clone(keys[:9]), gone, gone+1)...)
		}
	}
}

func TestAllShardsFull(t *testing.T) {
	s := locked(t, 1)
	var all []string
	for shard := range api.Shards {
		keys := sameShard(t, shard, 9)
		for _, key := range keys[:8] {
			puts(t, s, 1, key, key+key, "", false)
		}
		putFails(t, s, 1, keys[8], "v", "", api.ErrFull)
		all = append(all, keys[:8]...)
	}
	slices.Sort(all)
	lists(t, s, 1, "", all...)
	for _, key := range all {
		gets(t, s, 1, key, key+key)
		deletes(t, s, 1, key, Tag(key+key), api.OK)
	}
	lists(t, s, 1, "")
	for _, key := range all {
		puts(t, s, 1, key, "v", "", false)
	}
	lists(t, s, 1, "", all...)
}

func TestList(t *testing.T) {
	s := locked(t, 1)
	lists(t, s, 1, "")
	lists(t, s, 1, "a")
	for _, key := range []string{"b", "ab", "a", "aba", "B", "a/c", "abc", "\xff", "ab "} {
		puts(t, s, 1, key, "v", "", false)
	}
	puts(t, s, 1, "ab", "w", "", true)
	lists(t, s, 1, "", "B", "a", "a/c", "ab", "ab ", "aba", "abc", "b", "\xff")
	lists(t, s, 1, "a", "a", "a/c", "ab", "ab ", "aba", "abc")
	lists(t, s, 1, "ab", "ab", "ab ", "aba", "abc")
	lists(t, s, 1, "abc", "abc")
	lists(t, s, 1, "a/", "a/c")
	lists(t, s, 1, "\xff", "\xff")
	lists(t, s, 1, "abcd")
	lists(t, s, 1, "c")
	lists(t, s, 1, "A")
	lists(t, s, 1, "v")
	lists(t, s, 1, strings.Repeat("a", 41))
	deletes(t, s, 1, "ab", "", api.OK)
	lists(t, s, 1, "ab", "ab ", "aba", "abc")
}

func TestListOfLongPrefixes(t *testing.T) {
	s := locked(t, 1)
	key := strings.Repeat("k", 40)
	puts(t, s, 1, key, "v", "", false)
	for n := range 41 {
		lists(t, s, 1, key[:n], key)
	}
	lists(t, s, 1, key+"k")
}

// Each set of shards that are somebody's: only of all of them there is a list.
func TestListNeedsAllShards(t *testing.T) {
	for set := range 1 << api.Shards {
		for _, other := range []bool{false, true} {
			s := locked(t, 3)
			puts(t, s, 3, "a", "v", "", false)
			s.Unlock(3)
			for i := range api.Shards {
				if set>>i&1 == 1 {
					s.Lock(1, i)
				} else if other {
					s.Lock(2, i)
				}
			}
			if set == 1<<api.Shards-1 {
				lists(t, s, 1, "", "a")
			} else {
				listFails(t, s, 1, "")
				listFails(t, s, 1, "a")
				listFails(t, s, 1, "b")
			}
			if !other || set > 0 {
				listFails(t, s, 2, "")
			}
			for _, owner := range noOwners {
				listFails(t, s, owner, "")
			}
			has(t, s, []int{1, 2}, pair{"a", "v"})
		}
	}
}

func TestOwnersOneBehindTheOther(t *testing.T) {
	s := New()
	for i, owner := range []int{1, 4, 2, math.MaxInt, 3} {
		locks(t, s, owner)
		puts(t, s, owner, "a", fmt.Sprint(owner), "", i > 0)
		gets(t, s, owner, "a", fmt.Sprint(owner))
		s.Unlock(owner)
		waits(t, s, owner, "a")
		listFails(t, s, owner, "")
	}
	has(t, s, nil, pair{"a", "3"})
}

func TestOwnersSideBySide(t *testing.T) {
	s := New()
	for i, key := range keyOf {
		s.Lock(i+1, i)
		puts(t, s, i+1, key, "v", "", false)
	}
	for i := range keyOf {
		for k, other := range keyOf {
			if i != k {
				waits(t, s, i+1, other)
			}
		}
		gets(t, s, i+1, keyOf[i], "v")
	}
	s.Unlock(2)
	waits(t, s, 2, "a")
	gets(t, s, 1, "d", "v")
	gets(t, s, 3, "b", "v")
	s.Lock(3, 1)
	puts(t, s, 3, "a", "w", Tag("v"), true)
	has(t, s, []int{1, 3, 4}, pair{"a", "w"}, pair{"b", "v"}, pair{"c", "v"}, pair{"d", "v"})
}

func TestWhatIsHandedOutStays(t *testing.T) {
	s := locked(t, 1)
	for _, key := range []string{"a", "ab", "b"} {
		puts(t, s, 1, key, "v"+key, "", false)
	}
	l, _ := s.List(1, "")
	v, _ := s.Get(1, "a")
	tag := Tag(v)
	puts(t, s, 1, "a", "other", "", true)
	deletes(t, s, 1, "ab", "", api.OK)
	puts(t, s, 1, "aa", "v", "", false)
	s.Unlock(1)
	if !slices.Equal(l, []string{"a", "ab", "b"}) || v != "va" || tag != plainTag("va") {
		t.Errorf("now it is %q, %q, %q", l, v, tag)
	}
	has(t, s, nil, pair{"a", "other"}, pair{"aa", "v"}, pair{"b", "vb"})
}

func TestListsAreNewMemory(t *testing.T) {
	s := locked(t, 1)
	for _, key := range []string{"a", "b", "c"} {
		puts(t, s, 1, key, "v", "", false)
	}
	one, _ := s.List(1, "")
	two, _ := s.List(1, "")
	for i := range one {
		one[i] = "spoilt"
	}
	one = append(one, "x")
	two = append(two, "y")
	if one[3] != "x" || two[3] != "y" || two[0] != "a" {
		t.Errorf("%q, %q", one, two)
	}
	has(t, s, []int{1}, pair{"a", "v"}, pair{"b", "v"}, pair{"c", "v"})
}

func TestKeepsNoBytesOfTheCaller(t *testing.T) {
	s := locked(t, 1)
	b := []byte("key value")
	puts(t, s, 1, string(b[:3]), string(b[4:]), "", false)
	copy(b, "xxxxxxxxx")
	has(t, s, []int{1}, pair{"key", "value"})
}

func TestStoresDoNotTouch(t *testing.T) {
	one, two := New(), New()
	locks(t, one, 1)
	holds(t, two, 1)
	locks(t, two, 2)
	puts(t, one, 1, "a", "v", "", false)
	getFails(t, two, 2, "a", api.ErrNone)
	putFails(t, two, 2, "a", "w", Tag("v"), api.ErrTag)
	puts(t, two, 2, "a", "w", "", false)
	gets(t, one, 1, "a", "v")
	deletes(t, one, 1, "a", Tag("v"), api.OK)
	gets(t, two, 2, "a", "w")
	one.Unlock(1)
	one.Unlock(2)
	holds(t, two, 2, 0, 1, 2, 3)
	for _, key := range sameShard(t, 0, 8) {
		puts(t, two, 2, key, "v", "", false)
	}
	locks(t, one, 3)
	puts(t, one, 3, "d", "v", "", false)
	has(t, one, []int{3}, pair{"d", "v"})
}

// A plain is a store told in the plainest way: lists that are gone through.
type plain struct {
	owners [4]int
	pairs  []pair
}

func (p *plain) free(owner, i int) bool {
	return owner > 0 && i >= 0 && i < 4 && (p.owners[i] == 0 || p.owners[i] == owner)
}

func (p *plain) lock(owner, i int) bool {
	ok := p.free(owner, i)
	if ok {
		p.owners[i] = owner
	}
	return ok
}

func (p *plain) unlock(owner int) {
	for i, o := range p.owners {
		if o == owner {
			p.owners[i] = 0
		}
	}
}

func (p *plain) held(owner int) int {
	n := 0
	for _, o := range p.owners {
		if owner > 0 && o == owner {
			n++
		}
	}
	return n
}

// look: where a key is (-1: nowhere), and how many there are in its shard.
func (p *plain) look(key string) (at, n int) {
	at = -1
	for i, x := range p.pairs {
		if plainShard(x.key) == plainShard(key) {
			n++
		}
		if x.key == key {
			at = i
		}
	}
	return at, n
}

// may: ErrArg or ErrWait, if a key may not be, or isn't theirs.
func (p *plain) may(owner int, key string) api.Errno {
	if key == "" || len(key) > 40 {
		return api.ErrArg
	}
	if owner <= 0 || p.owners[plainShard(key)] != owner {
		return api.ErrWait
	}
	return api.OK
}

func (p *plain) get(owner int, key string) (string, api.Errno) {
	at, _ := p.look(key)
	if e := p.may(owner, key); e != api.OK {
		return "", e
	}
	if at < 0 {
		return "", api.ErrNone
	}
	return p.pairs[at].value, api.OK
}

func (p *plain) put(owner int, key, value, tag string) (bool, api.Errno) {
	at, n := p.look(key)
	if e := p.may(owner, key); e != api.OK {
		return false, e
	}
	if tag != "" && (at < 0 || plainTag(p.pairs[at].value) != tag) {
		return false, api.ErrTag
	}
	if at < 0 && n >= 8 {
		return false, api.ErrFull
	}
	if at < 0 {
		p.pairs = append(p.pairs, pair{key, value})
	} else {
		p.pairs[at].value = value
	}
	return at >= 0, api.OK
}

func (p *plain) remove(owner int, key, tag string) api.Errno {
	at, _ := p.look(key)
	if e := p.may(owner, key); e != api.OK {
		return e
	}
	if at < 0 {
		return api.ErrNone
	}
	if tag != "" && plainTag(p.pairs[at].value) != tag {
		return api.ErrTag
	}
	p.pairs = slices.Delete(p.pairs, at, at+1)
	return api.OK
}

func (p *plain) list(owner int, prefix string) ([]string, api.Errno) {
	if p.held(owner) < 4 {
		return nil, api.ErrWait
	}
	var l []string
	for _, x := range p.pairs {
		if strings.HasPrefix(x.key, prefix) {
			l = append(l, x.key)
		}
	}
	slices.Sort(l)
	return l, api.OK
}

// An act is a call of a store and of a plain one: what each answers, as a text.
type act struct {
	name string
	do   func(s *Store, p *plain) (string, string)
}

func both(a, b any) (string, string) { return fmt.Sprint(a), fmt.Sprint(b) }

func lockAct(owner, i int) act {
	return act{fmt.Sprintf("lock %d %d", owner, i), func(s *Store, p *plain) (string, string) {
		return both(s.Lock(owner, i), p.lock(owner, i))
	}}
}

func freeAct(owner, i int) act {
	return act{fmt.Sprintf("free %d %d", owner, i), func(s *Store, p *plain) (string, string) {
		return both(s.Free(owner, i), p.free(owner, i))
	}}
}

func unlockAct(owner int) act {
	return act{fmt.Sprintf("unlock %d", owner), func(s *Store, p *plain) (string, string) {
		s.Unlock(owner)
		p.unlock(owner)
		return both(s.Held(owner), p.held(owner))
	}}
}

func getAct(owner int, key string) act {
	return act{fmt.Sprintf("get %d %q", owner, key), func(s *Store, p *plain) (string, string) {
		a, x := s.Get(owner, key)
		b, y := p.get(owner, key)
		return both([]any{a, int(x)}, []any{b, int(y)})
	}}
}

func putAct(owner int, key, value, tag string) act {
	return act{fmt.Sprintf("put %d %q %q %q", owner, key, value, tag), func(s *Store, p *plain) (string, string) {
		a, x := s.Put(owner, key, value, tag)
		b, y := p.put(owner, key, value, tag)
		return both([]any{a, int(x)}, []any{b, int(y)})
	}}
}

func deleteAct(owner int, key, tag string) act {
	return act{fmt.Sprintf("delete %d %q %q", owner, key, tag), func(s *Store, p *plain) (string, string) {
		return both(int(s.Delete(owner, key, tag)), int(p.remove(owner, key, tag)))
	}}
}

func listAct(owner int, prefix string) act {
	return act{fmt.Sprintf("list %d %q", owner, prefix), func(s *Store, p *plain) (string, string) {
		a, x := s.List(owner, prefix)
		b, y := p.list(owner, prefix)
		return both([]any{len(a), a, int(x)}, []any{len(b), b, int(y)})
	}}
}

// alike: does a store answer these acts as a plain one, and have the same values behind them?
func alike(t *testing.T, acts []act) {
	t.Helper()
	s, p := New(), &plain{}
	tell := func() string {
		var l []string
		for _, a := range acts {
			l = append(l, a.name)
		}
		return strings.Join(l, "; ")
	}
	for _, a := range acts {
		if got, want := a.do(s, p); got != want {
			t.Fatalf("%s: %s = %s, want %s", tell(), a.name, got, want)
		}
	}
	for owner := -1; owner <= 3; owner++ {
		if s.Held(owner) != p.held(owner) {
			t.Fatalf("%s: Held(%d) = %d, want %d", tell(), owner, s.Held(owner), p.held(owner))
		}
		for i := -1; i <= 4; i++ {
			if s.Free(owner, i) != p.free(owner, i) {
				t.Fatalf("%s: Free(%d, %d) = %v", tell(), owner, i, s.Free(owner, i))
			}
		}
	}
	slices.SortFunc(p.pairs, func(a, b pair) int { return strings.Compare(a.key, b.key) })
	has(t, s, []int{1, 2, 3}, p.pairs...)
}

// All lists of some calls, behind a beginning: each is answered as by a plain store.
func TestAllShortListsOfCalls(t *testing.T) {
	acts := []act{
		lockAct(1, 1), lockAct(2, 1), lockAct(2, 2), lockAct(0, 1), lockAct(1, 4),
		unlockAct(1), unlockAct(0),
		getAct(1, "a"), getAct(2, "b"), getAct(0, "a"),
		putAct(1, "a", "v", ""), putAct(1, "a", "w", Tag("v")), putAct(1, "e", "v", ""), putAct(2, "a", "", ""), putAct(2, "b", "v", ""),
		deleteAct(1, "a", ""), deleteAct(2, "a", Tag("v")), deleteAct(1, "", ""),
		listAct(1, ""), listAct(2, "a"),
	}
	beginnings := [][]act{
		nil,
		{lockAct(1, 0), lockAct(1, 1), lockAct(1, 2), lockAct(1, 3)},
		{lockAct(1, 1), putAct(1, "a", "v", ""), lockAct(2, 0), lockAct(2, 2), lockAct(2, 3)},
	}
	for _, first := range beginnings {
		var from func(l []act)
		from = func(l []act) {
			alike(t, l)
			if len(l) < len(first)+3 {
				for _, a := range acts {
					from(append(slices.Clip(l), a))
				}
			}
		}
		from(first)
	}
}

// next: the next number of a row that is the same each time.
func next(row *uint32) int {
	*row = *row*1664525 + 1013904223
	return int(*row >> 8)
}

// anyAct: one of those that the row tells. Most are one owner's, or hardly any would be more than told to wait.
func anyAct(row *uint32, keys []string) act {
	owner, i := []int{1, 1, 1, 1, 1, 1, 2, 3, 0}[next(row)%9], next(row)%6-1
	key, value := keys[next(row)%len(keys)], []string{"", "v", "w"}[next(row)%3]
	tag := []string{"", "", Tag(value), "x"}[next(row)%4]
	switch next(row) % 16 {
	case 0, 1, 2:
		return lockAct(owner, i)
	case 3:
		return freeAct(owner, i)
	case 4:
		if next(row)%4 == 0 {
			return unlockAct(owner)
		}
		return lockAct(owner, i)
	case 5, 6:
		return getAct(owner, key)
	case 7:
		return deleteAct(owner, key, tag)
	case 8:
		return listAct(owner, key[:len(key)/2])
	}
	return putAct(owner, key, value, tag)
}

func TestLongListsOfCalls(t *testing.T) {
	keys := []string{"", strings.Repeat("k", 40), strings.Repeat("k", 41)}
	keys = append(keys, keyOf[:]...)
	for i := range api.Shards {
		keys = append(keys, sameShard(t, i, 4*(i+1))...)
	}
	row := uint32(1)
	for range 300 {
		var l []act
		for range 400 {
			l = append(l, anyAct(&row, keys))
		}
		alike(t, l)
	}
}
