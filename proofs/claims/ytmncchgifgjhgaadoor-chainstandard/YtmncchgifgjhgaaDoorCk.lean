/- The standard chain: what it comes to at a call. -/
import Derived.Test.YtmncchgifgjhgaaDoorCl
namespace Go.Proofs.YtmncchgifgjhgaaDoor
open Go.RowKit Go.Shelf

set_option maxHeartbeats 1000000 in
theorem standard_any (w : World) : Calls Tryd.prog 13 #[] w fun e w' => e = .returned (.slice (some ⟨w.heap.size, 0, none⟩) 6 6) ∧ w' = w.alloc (.cells #[.func (.func 26) #[] #[], .func (.func 25) #[] #[], .func (.func 21) #[] #[], .func (.func 22) #[] #[], .func (.func 23) #[] #[], .func (.func 24) #[] #[]] 47) := by
  go_enter Tryd.func13, Tryd.ntmps13
  go_wp2_with fail
  go_ret
  exact ⟨rfl, rfl⟩
def stdL : List Lk := [⟨(.func (.func 26) #[] #[], 45, #[]), mk_mark⟩, ⟨(.func (.func 25) #[] #[], 43, #[]), mk_safe⟩, ⟨(.func (.func 21) #[] #[], 35, #[]), mk_known⟩, ⟨(.func (.func 22) #[] #[], 37, #[]), mk_small⟩, ⟨(.func (.func 23) #[] #[], 38, #[]), mk_guard⟩, ⟨(.func (.func 24) #[] #[], 41, #[]), mk_routed⟩]
theorem std_kes : kes stdL = [(45, #[]), (43, #[]), (35, #[]), (37, #[]), (38, #[]), (41, #[])] := rfl

/-- A call. -/
structure Cl where
  m : ByteArray
  tg : ByteArray
  A : Option Addr
  fs : List Fld
  fc : Nat
  bd : ByteArray
  cc : Bool
  cn : Int
  sq : Int
  vs : Int
  hn : ByteArray
  pv : Value
  B : Option Addr
  al : List ByteArray
  ac : Nat
  fd : Bool
  tk : ByteArray
def Cl.v (c : Cl) : Value := .agg #[.string c.m, .string c.tg, .slice c.A c.fs.length c.fc, .string c.bd, .bool c.cc, .int .i64 c.cn, .int .i64 c.sq, .int .i64 c.vs, .string c.hn, c.pv, .slice c.B c.al.length c.ac, .bool c.fd, .string c.tk]
structure Cl.ok (c : Cl) (P : Nat → Prop) (w : World) : Prop where
  row : Row P w c.A c.fs
  rowS : RowS P w c.B c.al
  cap : c.al.length ≤ c.ac
  aln : c.al.length ≤ 100
  als : ∀ x ∈ c.al, x.size ≤ 3000
  fsn : c.fs.length ≤ 1000000
  tgn : c.tg.size ≤ 1000000
  icn : I64 c.cn
  isq : I64 c.sq
  ivs : I64 c.vs

def refB (st : Int) : Out := .ans st [] (plB st) false
def routedO (c : Cl) (o : Out) : Out × Bool := if c.fd then (o, true) else if c.al = [] then (refB 404, false) else (.ans 405 [(allowB, joinB c.al)] (plB 405) false, false)
def guardO (c : Cl) (o : Out × Bool) : Out × Bool := if guardedB c.tk c.tg = true then (if showsB c.tk c.fs = true then o else (refB 401, false)) else o
def smallO (c : Cl) (o : Out × Bool) : Out × Bool := if c.bd.data.toList = [] then o else if c.m = getB then (refB 400, false) else if c.m = delB then (refB 400, false) else o
def knownO (c : Cl) (o : Out × Bool) : Out × Bool := if c.m = getB ∨ c.m = putB ∨ c.m = postB ∨ c.m = delB then o else (refB 501, false)
def safeO : Out → Out
  | .gone => refB 500
  | o => o
def markO (c : Cl) : Out → Out
  | .ans st l b cl => .ans st (markL c.cn c.sq c.vs ++ l) b (cl || c.cc)
  | .gone => .gone
def stdO (c : Cl) (o : Out) : Out × Bool := knownO c (smallO c (guardO c (routedO c o)))
def sel (b : Bool) (S0 S1 : World → Prop) : World → Prop := if b = true then S1 else S0

section
variable {P : Nat → Prop} {S0 S1 : World → Prop} {w0 : World} {hv : Value} {g : Nat} {o : Out} {b : Bool} {c : Cl}

theorem of_sel (h0 : Of P S0) (h1 : Of P S1) : Of P (sel b S0 S1) := by
  unfold sel
  split
  · exact h1
  · exact h0

theorem all1_o (h : Hd P S0 S1 c.v o w0 hv) (hp : ∀ j, P j → j < w0.heap.size) (h0 : Of P S0) (h1 : Of P S1) (hg : g < w0.heap.size) (hgp : ¬ P g) (hbx : w0.cell? ⟨g, 0, none⟩ = some hv) :
    Hd P S0 S1 c.v o w0 (.func (.func 33) #[] #[.pointer (some ⟨g, 0, none⟩)]) := all1_hd h hp h0 h1 hg hgp hbx

theorem routed_o (hc : c.ok P w0) (h : Hd P S0 S1 c.v o w0 hv) (hp : ∀ j, P j → j < w0.heap.size) (h0 : Of P S0) (h1 : Of P S1) (hg : g < w0.heap.size) (hgp : ¬ P g) (hbx : w0.cell? ⟨g, 0, none⟩ = some hv) :
    Hd P S0 (sel (routedO c o).2 S0 S1) c.v (routedO c o).1 w0 (.func (.func 41) #[] #[.pointer (some ⟨g, 0, none⟩)]) := by
  obtain ⟨m, tg, A, fs, fc, bd, cc, cn, sq, vs, hn, pv, B, al, ac, fd, tk⟩ := c
  obtain ⟨hr, hrs, hac, haln, hals, _, _, _, _, _⟩ := hc
  unfold routedO
  cases fd with
  | true => exact routed_found h hp h0 h1 hg hgp hbx
  | false =>
    by_cases ha : al = []
    · subst ha
      exact routed_none hp h0 hg hgp hbx
    · simp only [Bool.false_eq_true, if_false, if_neg ha]
      exact routed_some ha hrs hac haln hals hp h0 hg hgp hbx

theorem guard_o (hc : c.ok P w0) (h : Hd P S0 (sel b S0 S1) c.v o w0 hv) (hp : ∀ j, P j → j < w0.heap.size) (h0 : Of P S0) (h1 : Of P S1) (hg : g < w0.heap.size) (hgp : ¬ P g) (hbx : w0.cell? ⟨g, 0, none⟩ = some hv) :
    Hd P S0 (sel (guardO c (o, b)).2 S0 S1) c.v (guardO c (o, b)).1 w0 (.func (.func 38) #[] #[.pointer (some ⟨g, 0, none⟩)]) := by
  obtain ⟨m, tg, A, fs, fc, bd, cc, cn, sq, vs, hn, pv, B, al, ac, fd, tk⟩ := c
  obtain ⟨hr, _, _, _, _, hfn, htg, _, _, _⟩ := hc
  unfold guardO
  by_cases hgd : guardedB tk tg = true
  · by_cases hsh : showsB tk fs = true
    · simp only [if_pos hgd, if_pos hsh]
      exact guard_shown hgd hsh hr hfn htg h hp h0 (of_sel h0 h1) hg hgp hbx
    · simp only [if_pos hgd, if_neg hsh]
      exact guard_no hgd (by simpa using hsh) hr hfn htg hp h0 hg hgp hbx
  · simp only [if_neg hgd]
    exact guard_free (by simpa using hgd) hr hfn htg h hp h0 (of_sel h0 h1) hg hgp hbx

theorem small_o (h : Hd P S0 (sel b S0 S1) c.v o w0 hv) (hp : ∀ j, P j → j < w0.heap.size) (h0 : Of P S0) (h1 : Of P S1) (hg : g < w0.heap.size) (hgp : ¬ P g) (hbx : w0.cell? ⟨g, 0, none⟩ = some hv) :
    Hd P S0 (sel (smallO c (o, b)).2 S0 S1) c.v (smallO c (o, b)).1 w0 (.func (.func 37) #[] #[.pointer (some ⟨g, 0, none⟩)]) := by
  obtain ⟨m, tg, A, fs, fc, bd, cc, cn, sq, vs, hn, pv, B, al, ac, fd, tk⟩ := c
  unfold smallO
  by_cases hb : bd.data.toList = []
  · simp only [if_pos hb]
    obtain rfl : bd = ⟨#[]⟩ := bytes_ext hb
    exact small_empty h hp h0 (of_sel h0 h1) hg hgp hbx
  · by_cases h2 : m = getB
    · simp only [if_neg hb, if_pos h2]
      subst h2
      exact small_get hb hp h0 hg hgp hbx
    · by_cases h3 : m = delB
      · simp only [if_neg hb, if_neg h2, if_pos h3]
        subst h3
        exact small_del hb hp h0 hg hgp hbx
      · simp only [if_neg hb, if_neg h2, if_neg h3]
        exact small_other hb (fun e => h2 (bytes_ext e)) (fun e => h3 (bytes_ext e)) h hp h0 (of_sel h0 h1) hg hgp hbx

theorem known_o (h : Hd P S0 (sel b S0 S1) c.v o w0 hv) (hp : ∀ j, P j → j < w0.heap.size) (h0 : Of P S0) (h1 : Of P S1) (hg : g < w0.heap.size) (hgp : ¬ P g) (hbx : w0.cell? ⟨g, 0, none⟩ = some hv) :
    Hd P S0 (sel (knownO c (o, b)).2 S0 S1) c.v (knownO c (o, b)).1 w0 (.func (.func 35) #[] #[.pointer (some ⟨g, 0, none⟩)]) := by
  obtain ⟨m, tg, A, fs, fc, bd, cc, cn, sq, vs, hn, pv, B, al, ac, fd, tk⟩ := c
  unfold knownO
  by_cases hk : m = getB ∨ m = putB ∨ m = postB ∨ m = delB
  · simp only [if_pos hk]
    rcases hk with rfl | rfl | rfl | rfl
    · exact known_get h hp h0 (of_sel h0 h1) hg hgp hbx
    · exact known_put h hp h0 (of_sel h0 h1) hg hgp hbx
    · exact known_post h hp h0 (of_sel h0 h1) hg hgp hbx
    · exact known_del h hp h0 (of_sel h0 h1) hg hgp hbx
  · simp only [if_neg hk]
    refine known_no (fun e => hk (.inl (bytes_ext e))) (fun e => hk (.inr (.inl (bytes_ext e)))) (fun e => hk (.inr (.inr (.inl (bytes_ext e))))) (fun e => hk (.inr (.inr (.inr (bytes_ext e))))) hp h0 hg hgp hbx

theorem safe_o (h : Hd P S0 S1 c.v o w0 hv) (hp : ∀ j, P j → j < w0.heap.size) (h0 : Of P S0) (h1 : Of P S1) (hg : g < w0.heap.size) (hgp : ¬ P g) (hbx : w0.cell? ⟨g, 0, none⟩ = some hv) :
    Hd P S0 S1 c.v (safeO o) w0 (.func (.func 43) #[] #[.pointer (some ⟨g, 0, none⟩)]) := by
  cases o with
  | ans st l b cl => exact safe_hd_ans h hp h0 h1 hg hgp hbx
  | gone => exact safe_hd_gone h hp h0 h1 hg hgp hbx

theorem mark_o {st : Int} {l : List Fld} {bd : ByteArray} {cl : Bool} (hc : c.ok P w0) (hgb : GB w0) (hP : ∀ j, P j → 4 ≤ j) (hll : l.length + 2 ≤ 100) (h : Hd P S0 S1 c.v (.ans st l bd cl) w0 hv) (hp : ∀ j, P j → j < w0.heap.size) (h0 : Of P S0) (h1 : Of P S1) (hg : g < w0.heap.size) (hgp : ¬ P g) (hbx : w0.cell? ⟨g, 0, none⟩ = some hv) :
    Hd P S0 S1 c.v (.ans st (markL c.cn c.sq c.vs ++ l) bd (cl || c.cc)) w0 (.func (.func 45) #[] #[.pointer (some ⟨g, 0, none⟩)]) := by
  cases cl with
  | true => exact mark_hd_t hc.icn hc.isq hc.ivs hgb hP hll h hp h0 h1 hg hgp hbx
  | false => exact mark_hd_f hc.icn hc.isq hc.ivs hgb hP hll h hp h0 h1 hg hgp hbx
end

theorem Chn.get {W : World} {H K : Nat} {x0 v : Value} {ex : Array Value} {ks : List (Nat × Array Value)} (h : Chn W H x0 ((K, ex) :: ks) v) :
    ∃ b x, v = .func (.func K) #[] (#[.pointer (some ⟨b, 0, none⟩)] ++ ex) ∧ H < b ∧ b < W.heap.size ∧ W.cell? ⟨b, 0, none⟩ = some x ∧ Chn W H x0 ks x := by
  cases h with
  | cons hb hk h => exact ⟨_, _, rfl, hb, blk_lt hk, blk_cell hk 0, h⟩
theorem Chn.end {W : World} {H : Nat} {x0 v : Value} (h : Chn W H x0 [] v) : v = x0 := by cases h; rfl

theorem stdO_len (c : Cl) (o : Out) (h : ∀ st l b cl, o = .ans st l b cl → l.length ≤ 98) : ∀ st l b cl, safeO (stdO c o).1 = .ans st l b cl → l.length ≤ 98 := by
  have key : ∀ o', (o' = o ∨ (∃ s, o' = refB s) ∨ ∃ x, o' = .ans 405 [(allowB, x)] (plB 405) false) → ∀ st l b cl, safeO o' = .ans st l b cl → l.length ≤ 98 := by
    rintro o' (rfl | ⟨s, rfl⟩ | ⟨x, rfl⟩) st l b cl e
    · cases o' with
      | ans a1 a2 a3 a4 => exact h st l b cl e
      | gone => simp only [safeO, refB] at e; cases e; simp
    · simp only [safeO, refB] at e; cases e; simp
    · simp only [safeO] at e; cases e; simp
  refine key _ ?_
  have p0 : (routedO c o).1 = o ∨ (∃ s, (routedO c o).1 = refB s) ∨ ∃ x, (routedO c o).1 = .ans 405 [(allowB, x)] (plB 405) false := by
    unfold routedO
    split
    · exact .inl rfl
    · split
      · exact .inr (.inl ⟨_, rfl⟩)
      · exact .inr (.inr ⟨_, rfl⟩)
  have p1 : ∀ q : Out × Bool, (q.1 = o ∨ (∃ s, q.1 = refB s) ∨ ∃ x, q.1 = .ans 405 [(allowB, x)] (plB 405) false) → ((guardO c q).1 = o ∨ (∃ s, (guardO c q).1 = refB s) ∨ ∃ x, (guardO c q).1 = .ans 405 [(allowB, x)] (plB 405) false) := by
    intro q hq
    unfold guardO
    split
    · split
      · exact hq
      · exact .inr (.inl ⟨_, rfl⟩)
    · exact hq
  have p2 : ∀ q : Out × Bool, (q.1 = o ∨ (∃ s, q.1 = refB s) ∨ ∃ x, q.1 = .ans 405 [(allowB, x)] (plB 405) false) → ((smallO c q).1 = o ∨ (∃ s, (smallO c q).1 = refB s) ∨ ∃ x, (smallO c q).1 = .ans 405 [(allowB, x)] (plB 405) false) := by
    intro q hq
    unfold smallO
    split
    · exact hq
    · split
      · exact .inr (.inl ⟨_, rfl⟩)
      · split
        · exact .inr (.inl ⟨_, rfl⟩)
        · exact hq
  have p3 : ∀ q : Out × Bool, (q.1 = o ∨ (∃ s, q.1 = refB s) ∨ ∃ x, q.1 = .ans 405 [(allowB, x)] (plB 405) false) → ((knownO c q).1 = o ∨ (∃ s, (knownO c q).1 = refB s) ∨ ∃ x, (knownO c q).1 = .ans 405 [(allowB, x)] (plB 405) false) := by
    intro q hq
    unfold knownO
    split
    · exact hq
    · exact .inr (.inl ⟨_, rfl⟩)
  exact p3 _ (p2 _ (p1 _ p0))

theorem safe_ans (o : Out) : ∃ st l b cl, safeO o = .ans st l b cl := by
  cases o with
  | ans st l b cl => exact ⟨st, l, b, cl, rfl⟩
  | gone => exact ⟨_, _, _, _, rfl⟩

/-- The standard chain ahead of x0: what it comes to. -/
theorem std_hd {P : Nat → Prop} {S0 S1 : World → Prop} {w0 : World} {x0 v : Value} {H : Nat} {o : Out} {c : Cl} (hc : c.ok P w0) (hgb : GB w0) (hP : ∀ j, P j → 4 ≤ j) (ho : ∀ st l b cl, o = .ans st l b cl → l.length ≤ 98)
    (h : Hd P S0 S1 c.v o w0 x0) (hp : ∀ j, P j → j < w0.heap.size) (hpH : ∀ j, P j → j ≤ H) (h0 : Of P S0) (h1 : Of P S1) (hch : Chn w0 H x0 (kes stdL) v) :
    Hd P S0 (sel (stdO c o).2 S0 S1) c.v (markO c (safeO (stdO c o).1)) w0 v := by
  rw [std_kes] at hch
  obtain ⟨b1, x1, rfl, g1, l1, e1, hch⟩ := hch.get
  obtain ⟨b2, x2, rfl, g2, l2, e2, hch⟩ := hch.get
  obtain ⟨b3, x3, rfl, g3, l3, e3, hch⟩ := hch.get
  obtain ⟨b4, x4, rfl, g4, l4, e4, hch⟩ := hch.get
  obtain ⟨b5, x5, rfl, g5, l5, e5, hch⟩ := hch.get
  obtain ⟨b6, x6, rfl, g6, l6, e6, hch⟩ := hch.get
  obtain rfl := hch.end
  have np : ∀ b, H < b → ¬ P b := fun b hb q => by have := hpH _ q; omega
  have t6 := routed_o hc h hp h0 h1 l6 (np _ g6) e6
  have t5 := guard_o hc t6 hp h0 h1 l5 (np _ g5) e5
  have t4 := small_o t5 hp h0 h1 l4 (np _ g4) e4
  have t3 := known_o t4 hp h0 h1 l3 (np _ g3) e3
  have t2 := safe_o t3 hp h0 (of_sel h0 h1) l2 (np _ g2) e2
  have hlen := stdO_len c o ho
  obtain ⟨st, l, b, cl, es⟩ := safe_ans (stdO c o).1
  change Hd P S0 (sel (stdO c o).2 S0 S1) c.v (safeO (stdO c o).1) w0 _ at t2
  rw [es] at t2 ⊢
  exact mark_o hc hgb hP (by have := hlen _ _ _ _ es; omega) t2 hp h0 (of_sel h0 h1) l1 (np _ g1) e1
end Go.Proofs.YtmncchgifgjhgaaDoor
