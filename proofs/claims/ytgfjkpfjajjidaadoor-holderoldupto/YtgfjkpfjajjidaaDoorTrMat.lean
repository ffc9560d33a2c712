/- The contracts of (*Trie).Len and (*Trie).Match. The contract of (*Trie).Match. -/
import Derived.Test.YtgfjkpfjajjidaaDoorTrSorts
import Derived.Deep.RegionHeld3
namespace Go.Proofs.YtgfjkpfjajjidaaDoor
open Go.RowKit Pl
attribute [local go_sem ↓] Go.wp_at_zero Go.wp_at_succ

/-- A tree with these routes. -/
def Tr (w : World) (B : Nat) (v : Option Addr) (l : List Rt) : Prop := (v = none ∧ l = []) ∨ ∃ g rv, v = some ⟨g, 0, none⟩ ∧ g < B ∧ w.cell? ⟨g, 0, none⟩ = some (.pointer rv) ∧ w.cell? ⟨g, 1, none⟩ = some (.int .i64 l.length) ∧ Nd w B rv (itemsL l)
theorem Tr.keep {w w' : World} {B C : Nat} {v : Option Addr} {l : List Rt} (h : Tr w B v l) (hb : Below C w w') (hB : B ≤ C) : Tr w' B v l := by
  rcases h with h | ⟨g, rv, e, hg, c0, c1, hn⟩
  · exact .inl h
  · exact .inr ⟨g, rv, e, hg, (hb.cell (p := ⟨g, 0, none⟩) (by show g < C; omega)).trans c0, (hb.cell (p := ⟨g, 1, none⟩) (by show g < C; omega)).trans c1, hn.keep hb hB⟩
theorem Tr.wide {w : World} {B C : Nat} {v : Option Addr} {l : List Rt} (h : Tr w B v l) (hB : B ≤ C) : Tr w C v l := by
  rcases h with h | ⟨g, rv, e, hg, c0, c1, hn⟩
  · exact .inl h
  · exact .inr ⟨g, rv, e, by omega, c0, c1, hn.wide hB⟩
theorem Tr.on {w w' : World} {v : Option Addr} {l : List Rt} (h : Tr w w.heap.size v l) (hb : Below w.heap.size w w') : Tr w' w'.heap.size v l := (h.keep hb (Nat.le_refl _)).wide hb.size
theorem Tr.nil (w : World) (B : Nat) : Tr w B none [] := .inl ⟨rfl, rfl⟩

theorem len_any (B : Nat) (v : Option Addr) (l : List Rt) (w : World) (h : Tr w B v l) : Calls Tryd.prog 17 #[.pointer v] w fun e w' => e = .returned (.int .i64 l.length) ∧ w = w' := by
  rcases h with ⟨rfl, rfl⟩ | ⟨g, rv, rfl, hg, c0, c1, hn⟩
  · go_enter Tryd.func17, Tryd.ntmps17
    go_wp2_with fail
    go_ret
    exact ⟨rfl, rfl⟩
  · clear hn
    generalize l.length = n at *
    go_enter Tryd.func17, Tryd.ntmps17
    go_wp2_with fail
    go_ret
    exact ⟨rfl, rfl⟩

/-- What a match tells. -/
structure Mt where
  h : List UInt8
  ps : List PL
  al : List Seg
  ok : Bool
def matchL (m : List UInt8) (x : List Seg) (l : List Rt) : Mt := match bestL cutL m x l with
  | some r => ⟨r.h, paramsL (cutL r.p) x, [], true⟩
  | none => ⟨[], [], allowL cutL x l, false⟩
/-- The like in memory. -/
def MtAt (w : World) (t : Mt) (hb : ByteArray) (PA : Option Addr) (pn pc : Nat) (AA : Option Addr) (an ac : Nat) : Prop :=
  hb = mkB t.h ∧ pn = t.ps.length ∧ Rd w w.heap.size 2 PA pn (plCells t.ps) ∧ an = t.al.length ∧ Rd w w.heap.size 1 AA an (t.al.map strV)
def MtRet (t : Mt) (e : Ending) (w' : World) : Prop := ∃ PA pn pc AA an ac, e = .returned (.tuple #[.agg #[.string (mkB t.h), .slice PA pn pc, .slice AA an ac], .bool t.ok]) ∧ MtAt w' t (mkB t.h) PA pn pc AA an ac

theorem en_in {w : World} {B n : Nat} {A : Option Addr} {l : List EnR} (h : Rd w B 3 A n (enCells l)) (hn : n = l.length) (k : Nat) (hk : k < l.length) : ∃ a : Addr, A = some a ∧ a.block < B ∧
    w.cell? (a.add (k * 3)) = some (.string (mkB l[k].1.m)) ∧ w.cell? ⟨(a.add (k * 3)).block, (a.add (k * 3)).off + 1, none⟩ = some (.string (mkB l[k].1.h)) ∧ w.cell? ⟨(a.add (k * 3)).block, (a.add (k * 3)).off + 2, none⟩ = some l[k].2 := by
  obtain ⟨a, e, hl, hc⟩ := h.2 (by omega)
  refine ⟨a, e, hl, hc (k * 3 + 0) _ (en_at l k hk 0 (by decide)), ?_, ?_⟩
  · rw [add_off2 _ _ _ (by decide)]; exact hc (k * 3 + 1) _ (en_at l k hk 1 (by decide))
  · rw [add_off2 _ _ _ (by decide)]; exact hc (k * 3 + 2) _ (en_at l k hk 2 (by decide))

def mt0 : Array Value := #[.string ⟨#[]⟩, .slice none 0 0, .slice none 0 0]
theorem mt_ret {W : World} {R : Nat} {a : Act} {X : Ending → World → Prop} {u0 u1 u2 b : Value} (hb : W.heap[R]? = some (.cells #[u0, u1, u2] 34 (0, 0)))
    (ha : a.tmps.getD 6 undef = .pointer (some ⟨R, 0, none⟩)) (h7 : a.tmps.getD 7 undef = b) (hd : a.defers = []) (hQ : X (.returned (.tuple #[.agg #[u0, u1, u2], b])) W) : bodyPost Tryd.prog Tryd.f10 X .ret a W := by
  have c0 : W.cell? ⟨R, 0, none⟩ = some u0 := by rw [Lib.cell_of_heap hb]; rfl
  have c1 : W.cell? ⟨R, 1, none⟩ = some u1 := by rw [Lib.cell_of_heap hb]; rfl
  have c2 : W.cell? ⟨R, 2, none⟩ = some u2 := by rw [Lib.cell_of_heap hb]; rfl
  simp at ha h7
  exact bodyPost_ret (v := .tuple #[.agg #[u0, u1, u2], b]) (by simp [results, Tryd.results10, go_sem, ha, h7, c0, c1, c2]) hd hQ

theorem params_none (A B : Option Addr) (c n m : Nat) (w : World) : Calls Tryd.prog 22 #[.slice A 0 c, .slice B n m] w fun e w' => e = .returned (.slice none 0 0) ∧ w = w' := by
  go_enter Tryd.func22, Tryd.ntmps22
  go_wp2_with fail
  refine wp_loop_rounds 1 ?_
  rw [rounds_succ]
  go_wp2
  go_ret
  exact ⟨rfl, rfl⟩

theorem match_nil (m : ByteArray) (A : Option Addr) (n c : Nat) (x : List Seg) (w : World) : Calls Tryd.prog 10 #[.pointer none, .string m, .slice A n c] w fun e w' => MtRet (matchL m.data.toList x []) e w' ∧ Below w.heap.size w w' := by
  have hb : Below w.heap.size w (w.alloc (.cells mt0 34)) := (Below.refl _ _).alloc (Nat.le_refl _) _
  have HB := Lib.hid hb
  have hk : (w.alloc (.cells mt0 34)).heap[w.heap.size]? = some (.cells mt0 34 (0, 0)) := heap_alloc_new w _
  have HK := Lib.hid hk
  unfold mt0 at HB HK
  clear hb hk
  go_enter Tryd.func10, Tryd.ntmps10
  go_wp2_with fail
  refine mt_ret HK.out rfl rfl rfl ?_
  exact ⟨⟨none, 0, 0, none, 0, 0, rfl, rfl, rfl, ⟨rfl, fun h => absurd rfl h⟩, rfl, ⟨rfl, fun h => absurd rfl h⟩⟩, HB.out⟩
end Go.Proofs.YtgfjkpfjajjidaaDoor

namespace Go.Proofs.YtgfjkpfjajjidaaDoor
open Go.RowKit Pl
attribute [local go_sem ↓] Go.wp_at_zero Go.wp_at_succ

/-- A path in memory. -/
structure Pth (w : World) (B : Nat) (A : Option Addr) (n c : Nat) (xs : List Seg) : Prop where
  len : n = xs.length
  rd : Rd w B 1 A n (xs.map strV)
  cap : n ≤ c
  spot : n ≠ 0 → ∀ a, A = some a → a = ⟨a.block, a.off, none⟩
  few : n ≤ 1000
  short : ∀ x ∈ xs, x.length ≤ 2000000
theorem Pth.keep {w w' : World} {B C : Nat} {A : Option Addr} {n c : Nat} {xs : List Seg} (h : Pth w B A n c xs) (hb : Below C w w') (hB : B ≤ C) : Pth w' B A n c xs := ⟨h.len, h.rd.below hb hB, h.cap, h.spot, h.few, h.short⟩
theorem Pth.wide {w : World} {B C : Nat} {A : Option Addr} {n c : Nat} {xs : List Seg} (h : Pth w B A n c xs) (hB : B ≤ C) : Pth w C A n c xs := ⟨h.len, h.rd.wide hB, h.cap, h.spot, h.few, h.short⟩

theorem Pth.of {w : World} {B : Nat} {A : Option Addr} {c : Nat} {xs : List Seg} (h : Rd w B 1 A xs.length (xs.map strV)) (hc : xs.length ≤ c) (hn : xs.length ≤ 1000) (hs : ∀ x ∈ xs, x.length ≤ 2000000) : Pth w B A xs.length c xs := by
  refine ⟨rfl, h, hc, fun h0 a ha => ?_, hn, hs⟩
  obtain ⟨a', e, _, hcl⟩ := h.2 h0
  rw [ha] at e; cases e
  have hx : 0 < xs.length := by omega
  have h1 := hcl 0 (strV xs[0]) (by simp [hx])
  rw [show a.add 0 = a from by unfold Addr.add; rw [if_pos rfl]] at h1
  have h2 := World.cell?_spot h1
  cases a
  simp at h2 ⊢
  exact h2

theorem params_pth (ps : List Seg) (SA A : Option Addr) (sc n m : Nat) (xs : List Seg) (w : World) (hs : Rd w w.heap.size 1 SA ps.length (ps.map strV)) (hx : Pth w w.heap.size A n m xs) (hl : ps.length ≤ xs.length) :
    Calls Tryd.prog 22 #[.slice SA ps.length sc, .slice A n m] w fun e w' => ∃ PA pc, e = .returned (.slice PA (parL ps xs).length pc) ∧ w'.ownsRow w.heap.size 38 2 (.slice PA (parL ps xs).length pc) (parL ps xs).length (plCells (parL ps xs)) ∧ Below w.heap.size w w' := by
  by_cases h0 : ps = []
  · subst h0
    refine (params_none SA A sc n m w).mono ?_
    rintro e w' ⟨rfl, rfl⟩
    exact ⟨none, 0, rfl, World.ownsRow_nil _ _ _ _, Below.refl _ _⟩
  · have hp := List.length_pos_iff.2 h0
    obtain ⟨hn, hr, hc, hsp, hf, hsh⟩ := hx
    subst hn
    obtain ⟨a, rfl, _⟩ := hr.2 (by omega)
    have ha := hsp (by omega) a rfl
    rw [ha] at hr ⊢
    refine (params_any ps SA sc xs a.block a.off m w hs hr hl hc hf hsh).mono ?_
    rintro e w' ⟨v, rfl, ho, hb⟩
    obtain ⟨PA, pc, rfl, _⟩ := Rd.own ho
    exact ⟨PA, pc, rfl, ho, hb⟩

theorem first_at {fs : List EnR} {m : List UInt8} {k : Nat} (h : k < fs.length) (he : fs[k].1.m = m) (hn : ∀ j (hj : j < fs.length), j < k → fs[j].1.m ≠ m) : firstL m (fs.map (·.1)) = some fs[k].1 := by
  unfold firstL
  rw [List.find?_eq_some_iff_getElem]
  refine ⟨by simp [he], k, by simpa using h, by simp, fun j hj => ?_⟩
  have := hn j (by omega) hj
  simpa using this
theorem first_no {fs : List EnR} {m : List UInt8} (hn : ∀ j (hj : j < fs.length), fs[j].1.m ≠ m) : firstL m (fs.map (·.1)) = none := by
  unfold firstL
  rw [List.find?_eq_none]
  intro x hx
  obtain ⟨y, hy, rfl⟩ := List.mem_map.1 hx
  obtain ⟨i, hi, rfl⟩ := List.getElem_of_mem hy
  simpa using hn i hi

/-- What the first one of the method tells. -/
theorem match_found {l : List Rt} (hg : Good cutL l) (ha : Apart cutL l) {m : List UInt8} {x : List Seg} {e : En} (h : firstL m (findL (itemsL l) x) = some e) : matchL m x l = ⟨e.h, parL e.s x, [], true⟩ ∧ e.s.length ≤ x.length := by
  rw [first_best hg ha] at h
  have hb := best_is cutL m x l hg ha
  unfold matchL
  cases hr : bestL cutL m x l with
  | none => rw [hr] at h; cases h
  | some r =>
    rw [hr] at h hb
    cases h
    have hf := hb.2.1
    simp only [fitR, Bool.and_eq_true, decide_eq_true_eq] at hf
    have ho := hg r hb.1
    refine ⟨?_, has_len _ _ ho hf.1⟩
    show Mt.mk r.h (paramsL (cutL r.p) x) [] true = _
    rw [← par_params _ _ ho hf.1]; rfl
theorem match_none {l : List Rt} (hg : Good cutL l) (ha : Apart cutL l) {m : List UInt8} {x : List Seg} (h : firstL m (findL (itemsL l) x) = none) : matchL m x l = ⟨[], [], Go.Lib.compact (srt ((findL (itemsL l) x).map En.m)), false⟩ := by
  rw [first_best hg ha] at h
  unfold matchL
  cases hr : bestL cutL m x l with
  | some r => rw [hr] at h; cases h
  | none =>
    rw [sort_allow hg x]


def meths (fs : List EnR) : List (List UInt8) := fs.map (·.1.m)
theorem meths_snoc (fs : List EnR) (k : Nat) (h : k < fs.length) : meths (fs.take (k + 1)) = meths (fs.take k) ++ [fs[k].1.m] := by
  rw [meths, meths, List.take_succ_eq_append_getElem h, List.map_append]; rfl

def put3 (W : World) (R : Nat) (u0 u1 u2 : Value) : World := ((W.setCell ⟨R, 0, none⟩ u0).setCell ⟨R, 1, none⟩ u1).setCell ⟨R, 2, none⟩ u2
theorem put3_blk {W : World} {R : Nat} {T : TypeId} {z0 z1 z2 : Value} (h : W.heap[R]? = some (.cells #[z0, z1, z2] T (0, 0))) (u0 u1 u2 : Value) : (put3 W R u0 u1 u2).heap[R]? = some (.cells #[u0, u1, u2] T (0, 0)) := by
  unfold put3
  rw [heap_setCell_same _ R 2 _ T u2 (heap_setCell_same _ R 1 _ T u1 (heap_setCell_same _ R 0 _ T u0 h))]
  rfl
theorem put3_cell {W : World} {R : Nat} (a : Addr) (h : a.block ≠ R) (u0 u1 u2 : Value) : (put3 W R u0 u1 u2).cell? a = W.cell? a := by
  unfold put3
  rw [World.cell?_setCell_far _ _ _ _ (by exact Ne.symm h), World.cell?_setCell_far _ _ _ _ (by exact Ne.symm h), World.cell?_setCell_far _ _ _ _ (by exact Ne.symm h)]
theorem put3_below {w W : World} {B R : Nat} (h : Below B w W) (hR : B ≤ R) (u0 u1 u2 : Value) : Below B w (put3 W R u0 u1 u2) :=
  ((h.setCell (p := ⟨R, 0, none⟩) hR _).setCell (p := ⟨R, 1, none⟩) hR _).setCell (p := ⟨R, 2, none⟩) hR _
theorem put3_own {W : World} {R base : Nat} {e : TypeId} {k n : Nat} {v : Value} {xs : List Value} (h : W.ownsRow base e k v n xs) (hR : R < base) (u0 u1 u2 : Value) : (put3 W R u0 u1 u2).ownsRow base e k v n xs :=
  own_far (own_far (own_far h ⟨R, 0, none⟩ u0 hR) ⟨R, 1, none⟩ u1 hR) ⟨R, 2, none⟩ u2 hR
theorem put3_rd {W : World} {R g n k : Nat} {xs : List Value} (h : Rd W W.heap.size k (some ⟨g, 0, none⟩) n xs) (hR : g ≠ R) (u0 u1 u2 : Value) : Rd (put3 W R u0 u1 u2) (put3 W R u0 u1 u2).heap.size k (some ⟨g, 0, none⟩) n xs := by
  have hz : (put3 W R u0 u1 u2).heap.size = W.heap.size := by simp [put3, World.setCell]
  rw [hz]
  refine ⟨h.1, fun hn => ?_⟩
  obtain ⟨a, e, hl, hc⟩ := h.2 hn
  cases e
  exact ⟨_, rfl, hl, fun j u hu => (put3_cell _ (by rw [add_block]; exact hR) u0 u1 u2).trans (hc j u hu)⟩
theorem cmp_nil : Go.Lib.compact (srt []) = [] := List.length_eq_zero_iff.1 (by have := cmp_len (srt []); rw [srt_len] at this; simpa using this)
theorem rd_zero (w : World) (B k : Nat) (A : Option Addr) : Rd w B k A 0 [] := ⟨by simp, fun h => absurd rfl h⟩

set_option maxRecDepth 100000 in
set_option maxHeartbeats 4000000 in
theorem match_any (v : Option Addr) (l : List Rt) (m : ByteArray) (A : Option Addr) (n c : Nat) (x : List Seg) (w : World) (ht : Tr w w.heap.size v l) (hg : Good cutL l) (ha : Apart cutL l) (hp : Pth w w.heap.size A n c x) (hl : l.length ≤ 100000) :
    Calls Tryd.prog 10 #[.pointer v, .string m, .slice A n c] w fun e w' => MtRet (matchL m.data.toList x l) e w' ∧ Below w.heap.size w w' := by
  rcases ht with ⟨rfl, rfl⟩ | ⟨g, rv, rfl, hgb, c0, c1, hn⟩
  · exact match_nil m A n c x w
  have hmf := Lib.hid (fun e (h : firstL m.data.toList (findL (itemsL l) x) = some e) => match_found hg ha h)
  have hmn := Lib.hid (fun (h : firstL m.data.toList (findL (itemsL l) x) = none) => match_none hg ha h)
  obtain ⟨T, hT⟩ : ∃ T, matchL m.data.toList x l = T := ⟨_, rfl⟩
  rw [hT] at hmf hmn ⊢
  clear hT
  obtain ⟨i0, hi, hz0, hz1, hz2⟩ := info_parts Tryd.info9
  have HZ := Lib.hid (And.intro hz0 (And.intro hz1 hz2))
  clear hz0 hz1 hz2
  have HP := Lib.hid hp
  have hA1 : Below w.heap.size w (w.alloc (.cells #[.string ⟨#[]⟩, .slice none 0 0, .slice none 0 0] 34)) := (Below.refl _ _).alloc (Nat.le_refl _) _
  have HA1 := Lib.hid hA1
  have HK1 : Hid ((w.alloc (.cells #[.string ⟨#[]⟩, .slice none 0 0, .slice none 0 0] 34)).heap[w.heap.size]? = some (.cells #[.string ⟨#[]⟩, .slice none 0 0, .slice none 0 0] 34 (0, 0))) := heap_alloc_new w _
  have hsz : (w.alloc (.cells #[.string ⟨#[]⟩, .slice none 0 0, .slice none 0 0] 34)).heap.size = w.heap.size + 1 := by simp
  have hil : (itemsL l).length = l.length := by simp [itemsL]
  have hnn := hp.len
  subst hnn
  have HF := Lib.hid (find_any w.heap.size (w.heap.size + 1) x rv (itemsL l) [] (.slice none 0 0) A c (w.alloc (.cells #[.string ⟨#[]⟩, .slice none 0 0, .slice none 0 0] 34)) (Nat.le_succ _) (by rw [hsz]; exact Nat.le_refl _) (hn.keep hA1 (Nat.le_refl _)) ⟨World.ownsRow_nil _ _ _ _, fun _ h => (by cases h)⟩ (by rw [hil]; simp; omega) (hp.rd.below hA1 (Nat.le_refl _)) hp.cap (by have := hp.few; omega))
  have hgs : g < w.heap.size := hgb
  have HLN := Lib.hid (find_len x (itemsL l))
  rw [hil] at HLN
  clear hn hA1 hp hil hg ha
  have HE := Lib.hid (fun a : ByteArray => eq_test a m)
  go_enter Tryd.func10, Tryd.ntmps10
  go_wp2_with fail
  refine HF.out.mono ?_
  rintro e w2 ⟨fv, fs, rfl, hfnd, hfm, hb2⟩
  simp only [List.map_nil, List.nil_append] at hfm
  have HK2 : Hid (w2.heap[w.heap.size]? = some (.cells #[.string ⟨#[]⟩, .slice none 0 0, .slice none 0 0] 34 (0, 0))) := (hb2.block w.heap.size (Nat.lt_succ_self _)).trans HK1.out
  have HB2 : Hid (Below w.heap.size w w2) := HA1.out.trans (hb2.mono (Nat.le_succ _))
  have HR2 : Hid (w.heap.size + 1 ≤ w2.heap.size) := by have := hb2.size; rw [hsz] at this; exact this
  obtain ⟨fa, fc, rfl, hrf⟩ := Rd.own hfnd.1
  have HFR := Lib.hid hrf
  have HFE := Lib.hid hfnd.2
  rw [← hfm] at hmf hmn HLN
  have HMN := Lib.hid (fun h => hmn.out (first_no h))
  have HMF := Lib.hid (fun k (h : k < fs.length) he hn => hmf.out fs[k].1 (first_at h he hn))
  have HFL : Hid (fs.length ≤ 100000) := by have := HLN.out; rw [List.length_map] at this; show _ ≤ _; omega
  have hfl := HFL.out
  clear hfnd hrf hfm hmf hmn hb2 HF HLN HA1 HK1 hsz c0 c1 hgs
  generalize hRR : w.heap.size = R at *
  have HR0 : Hid (R = w.heap.size) := hRR.symm
  clear hRR
  have HMM : Hid ((fs.map (·.1)).map En.m = meths fs) := by show _ = _; rw [meths, List.map_map]; rfl
  rw [HMM.out] at HMN
  have HML : Hid (∀ k, k ≤ fs.length → (meths (fs.take k)).length = k) := fun k hk => by rw [meths, List.length_map, List.length_take]; omega
  go_wp2_with fail
  go_loopw [8, 21] (fun av i wr => ∃ k : Nat, k ≤ fs.length ∧ i = .int .i64 k ∧ Hid (wr.ownsRow w2.heap.size 9 1 av k ((meths (fs.take k)).map strV)) ∧ Hid (Below w2.heap.size w2 wr) ∧ Hid (∀ j (hj : j < fs.length), j < k → fs[j].1.m ≠ m.data.toList)) (fun _ i _ => fs.length - (intOf i).toNat)
  case atStart => exact ⟨0, by omega, rfl, World.ownsRow_nil _ _ _ _, Below.refl _ _, fun j _ hj => absurd hj (by omega)⟩
  case round =>
    obtain ⟨k, hk, rfl, HO, HB, HN⟩ := hrel
    by_cases hlt : k < fs.length
    · obtain ⟨a, rfl, hab, k0, k1, k2⟩ := en_in (HFR.out.below HB.out (Nat.le_refl _)) rfl k hlt
      obtain ⟨SA, sc, es, hsl, hsr⟩ := HFE.out fs[k] (List.getElem_mem hlt)
      rw [es] at k2
      have HSR : Hid (Rd w2 R 1 SA fs[k].1.s.length (fs[k].1.s.map strV)) := hsr.1
      have hq := HE.out (mkB fs[k].1.m)
      have hiff : mkB fs[k].1.m = m ↔ fs[k].1.m = m.data.toList := ⟨fun h => by rw [← h, mkB_data], fun h => by rw [h, mkB_of]⟩
      clear es hsr
      have HF2 := Lib.hid (HMF.out k hlt)
      have HMS := Lib.hid (meths_snoc fs k hlt)
      have HNX := Lib.hid (fun (h : fs[k].1.m ≠ m.data.toList) j (hj : j < fs.length) (hjk : j < k + 1) => (show fs[j].1.m ≠ m.data.toList from (by
        by_cases e : j = k
        · subst e; exact h
        · exact HN.out j hj (by omega))))
      generalize fs[k].1 = en at *
      by_cases he : en.m = m.data.toList
      · obtain ⟨hT, hsx⟩ := HF2.out he HN.out
        have HT := Lib.hid hT
        rw [decide_eq_true (hiff.2 he)] at hq
        have hA3 : Below wr.heap.size wr (wr.alloc (.cells #[.string (mkB en.m), .string (mkB en.h), .slice SA en.s.length sc] 67)) := (Below.refl _ _).alloc (Nat.le_refl _) _
        have HW3 : Hid (Below w2.heap.size w2 (wr.alloc (.cells #[.string (mkB en.m), .string (mkB en.h), .slice SA en.s.length sc] 67))) := HB.out.trans (hA3.mono HB.out.size)
        have HP3 := Lib.hid (params_pth en.s SA A sc x.length c x (wr.alloc (.cells #[.string (mkB en.m), .string (mkB en.h), .slice SA en.s.length sc] 67)).drew ((HSR.out.below HW3.out.drew (Nat.le_trans (Nat.le_succ R) HR2.out)).wide (Nat.le_trans (Nat.le_trans (Nat.le_succ R) HR2.out) HW3.out.drew.size)) ((HP.out.keep (HB2.out.trans (HW3.out.drew.mono (Nat.le_trans (Nat.le_succ R) HR2.out))) (by rw [HR0.out]; exact Nat.le_refl _)).wide (by have := HB2.out.size; have := HW3.out.drew.size; have := HR0.out; omega)) hsx)
        clear he hiff hT hsx hA3 HNX HMS HF2
        generalize hPP : parL en.s x = PP at *
        have HPP := Lib.hid hPP
        clear hPP
        generalize en.s.length = q at *
        generalize hxm : mkB en.m = xm at *
        generalize hxh : mkB en.h = xh at *
        have HXH := Lib.hid hxh
        clear hxm hxh
        have d1 := new_cell4 wr #[.string xm, .string xh, .slice SA q sc] 67 1
        have d2 := new_cell4 wr #[.string xm, .string xh, .slice SA q sc] 67 2
        simp only [List.getElem?_toArray, List.getElem?_cons_succ, List.getElem?_cons_zero] at d1 d2
        have HG : Hid (R + 1 ≤ wr.heap.size ∧ wr.heap.size < (wr.alloc (.cells #[.string xm, .string xh, .slice SA q sc] 67)).heap.size) := ⟨Nat.le_trans HR2.out HB.out.size, by simp⟩
        go_wp2_with fail
        generalize wr.alloc (.cells #[.string xm, .string xh, .slice SA q sc] 67) = w3 at *
        generalize wr.heap.size = G at *
        have HC3 := Lib.hid (fun wx (h : Below w3.heap.size w3 wx) => And.intro ((h.cell (p := ⟨G, 1, none⟩) HG.out.2).trans d1) ((h.cell (p := ⟨G, 2, none⟩) HG.out.2).trans d2))
        have HC8 := Lib.hid (fun wx (h : Below w3.heap.size w3 wx) u0 u1 u2 => And.intro ((put3_cell (W := wx) (R := R) ⟨G, 1, none⟩ (by show G ≠ R; have := HG.out.1; omega) u0 u1 u2).trans (HC3.out wx h).1) ((put3_cell (W := wx) (R := R) ⟨G, 2, none⟩ (by show G ≠ R; have := HG.out.1; omega) u0 u1 u2).trans (HC3.out wx h).2))
        have HD3 : Hid (Below w3.heap.size w3 w3.drew) := (Below.refl _ _).drew
        have HKW := Lib.hid (fun wx (h : Below w3.heap.size w3 wx) => ((bt HW3.out h).block R (Nat.lt_of_lt_of_le (Nat.lt_succ_self R) HR2.out)).trans HK2.out)
        clear d1 d2 k0 k1 k2
        go_region_held3 (fun W => W.cell? ⟨G, 1, none⟩ = some (.string xh) ∧ W.cell? ⟨G, 2, none⟩ = some (.slice SA q sc)) (first | (exact HC8.out _ (HD3.out.trans hb5) _ _ _) | (exact HC3.out _ (HD3.out.trans hb5)) | (exact HC3.out _ HD3.out)) ((first
          | (go_at_call 22; refine HP3.out.mono ?_; rintro e w5 ⟨PA, pc, rfl, ho5, hb5⟩
             have hk5 := HKW.out _ (HD3.out.trans hb5)
             have r0 : w5.cell? ⟨R, 0, none⟩ = some (.string ⟨#[]⟩) := by rw [Lib.cell_of_heap hk5]; rfl
             have r1 : w5.cell? ⟨R, 1, none⟩ = some (.slice none 0 0) := by rw [Lib.cell_of_heap hk5]; rfl
             have r2 : w5.cell? ⟨R, 2, none⟩ = some (.slice none 0 0) := by rw [Lib.cell_of_heap hk5]; rfl
             have z0 : w5.frozen? ⟨R, 0, none⟩ = false := Lib.frozen_of_heap hk5 0
             have z1 : w5.frozen? ⟨R, 1, none⟩ = false := Lib.frozen_of_heap hk5 1
             have z2 : w5.frozen? ⟨R, 2, none⟩ = false := Lib.frozen_of_heap hk5 2)))
        have HK5 := Lib.hid hk5
        have HO5 := Lib.hid ho5
        have HB5 := Lib.hid (HD3.out.trans hb5)
        clear hk5 ho5 hb5 r0 r1 r2 z0 z1 z2
        go_wp2_with fail
        refine mt_ret (R := R) (put3_blk HK5.out (.string xh) (.slice PA PP.length pc) (.slice none 0 0)) rfl rfl rfl ?_
        have hown := put3_own HO5.out (show R < w3.drew.heap.size by have := HG.out; show R < w3.heap.size; omega) (.string xh) (.slice PA PP.length pc) (.slice none 0 0)
        obtain ⟨PA2, pc2, e2, hrd2⟩ := Rd.own hown
        cases e2
        have hbl : Below w.heap.size w (put3 w5 R (.string xh) (.slice PA PP.length pc) (.slice none 0 0)) := by
          have h1 : Below w.heap.size w w5 := by
            have := HB2.out
            rw [HR0.out] at this
            exact this.trans ((bt HW3.out HB5.out).mono this.size)
          exact h1.trans (put3_below (Below.refl _ _) (by rw [HR0.out]; exact Nat.le_refl _) _ _ _)
        refine ⟨⟨PA, PP.length, pc, none, 0, 0, ?_, ?_⟩, hbl⟩
        · rw [HT.out]
          show Ending.returned (.tuple #[.agg #[.string xh, .slice PA PP.length pc, .slice none 0 0], .bool true]) = Ending.returned (.tuple #[.agg #[.string (mkB en.h), .slice PA PP.length pc, .slice none 0 0], .bool true])
          rw [HXH.out]
        · rw [HT.out]
          exact ⟨rfl, rfl, hrd2, rfl, rd_zero _ _ _ _⟩
      · rw [decide_eq_false (fun h => he (hiff.1 h))] at hq
        have HN2 := Lib.hid (HNX.out he)
        have hA3 : Below wr.heap.size wr (wr.alloc (.cells #[.string (mkB en.m), .string (mkB en.h), .slice SA en.s.length sc] 67)) := (Below.refl _ _).alloc (Nat.le_refl _) _
        have HW3 : Hid (Below w2.heap.size w2 (wr.alloc (.cells #[.string (mkB en.m), .string (mkB en.h), .slice SA en.s.length sc] 67))) := HB.out.trans (hA3.mono HB.out.size)
        have HLK := Lib.hid (HML.out k hk)
        generalize hM : meths (fs.take k) = M at *
        generalize hM2 : meths (fs.take (k + 1)) = M2 at *
        have HM2 := Lib.hid hM2
        have HO3 := Lib.hid (own_below HO.out (hA3.alloc hA3.size (.cells #[.string (mkB en.m)] 9)))
        have H63 : Hid (k + 1 ≤ maxLen) := by show _ ≤ _; unfold maxLen; omega
        have HBY : Hid ((k + 1) * 16 ≤ 140737488355328) := by show _ ≤ _; omega
        have HXS : Hid (M2.map strV = M.map strV ++ [.string (mkB en.m)]) := by show _ = _; rw [HMS.out, List.map_append]; rfl
        clear he hiff hA3 HNX HMS HF2 hM hM2
        generalize en.s.length = q at *
        generalize mkB en.m = xm at *
        generalize mkB en.h = xh at *
        have d0 := new_cell4 wr #[.string xm, .string xh, .slice SA q sc] 67 0
        simp only [List.getElem?_toArray, List.getElem?_cons_zero] at d0
        have HS3 : Hid (w2.heap.size ≤ ((wr.alloc (.cells #[.string xm, .string xh, .slice SA q sc] 67)).alloc (.cells #[.string xm] 9)).heap.size) := (HW3.out.alloc HW3.out.size _).size
        have HW4 := Lib.hid (HW3.out.alloc HW3.out.size (.cells #[.string xm] 9))
        have HCN := Lib.hid (cell_one_new (wr.alloc (.cells #[.string xm, .string xh, .slice SA q sc] 67)) (.string xm) 9)
        have HOC : Hid (∀ u ∈ [Value.string xm], u.oneCell' = true) := fun u hu => by simp at hu; subst hu; rfl
        have hG3 : (wr.alloc (.cells #[.string xm, .string xh, .slice SA q sc] 67)).heap.size = wr.heap.size + 1 := by simp
        go_wp2_with (at_builtin; refine wpList_append_own_at _ rfl _ _ 22 rfl w2.heap.size 9 i0 (.string ⟨#[]⟩) 1 16 Tryd.underlying22 hi HZ.out.1 HZ.out.2.1 HZ.out.2.2 rfl (by decide) u8 k (M.map strV) rfl HO3.out ⟨(wr.alloc (.cells #[.string xm, .string xh, .slice SA q sc] 67)).heap.size, 0, none⟩ 1 1 [.string xm] (by first | rfl | (rw [hG3]; rfl)) rfl HCN.out HOC.out H63.out HBY.out HS3.out ?_)
        intro v7 w7 hown7 hgr7 _ _
        have HB7 : Hid (Below w2.heap.size w2 w7) := HW4.out.trans ((Below.refl _ _).grown hgr7 HS3.out (fun k hk => (HO3.out.lt k hk).1))
        rw [← HXS.out] at hown7
        have HO7 : Hid (w7.ownsRow w2.heap.size 9 1 v7 (k + 1) ((meths (fs.take (k + 1))).map strV)) := by show World.ownsRow _ _ _ _ _ _ _; rw [HM2.out]; exact hown7
        clear hown7 hgr7
        go_wp2_with fail
        go_roundw
        case rel => exact ⟨k + 1, by omega, by go_num, HO7, HB7, HN2⟩
        case measure => simp [intOf]; omega
    · have hke : k = fs.length := by omega
      subst hke
      have HT := Lib.hid (HMN.out fun j hj => HN.out j hj hj)
      have hall : fs.take fs.length = fs := List.take_length
      rw [hall] at HO
      have hml := HML.out fs.length (Nat.le_refl _)
      rw [hall] at hml
      clear hall
      by_cases h0 : fs.length = 0
      · have hm0 : meths fs = [] := List.length_eq_zero_iff.1 (by omega)
        rw [hm0] at HT
        obtain ⟨oa, oc, e8, _⟩ := Rd.own HO.out
        subst e8
        have hsn := sort_none oa oc
        have hcn := compact_none oa oc
        rw [← h0] at hsn hcn
        have HSN := Lib.hid hsn
        have HCN := Lib.hid hcn
        have H0 := Lib.hid h0
        have HKW := Lib.hid ((HB.out.block R (Nat.lt_of_lt_of_le (Nat.lt_succ_self R) HR2.out)).trans HK2.out)
        clear hml hm0 HO hlt hsn hcn h0
        go_wp2_with fail
        refine (HSN.out _).mono ?_
        rintro e w5 ⟨rfl, rfl⟩
        have r0 : w5.cell? ⟨R, 0, none⟩ = some (.string ⟨#[]⟩) := by rw [Lib.cell_of_heap HKW.out]; rfl
        have r1 : w5.cell? ⟨R, 1, none⟩ = some (.slice none 0 0) := by rw [Lib.cell_of_heap HKW.out]; rfl
        have r2 : w5.cell? ⟨R, 2, none⟩ = some (.slice none 0 0) := by rw [Lib.cell_of_heap HKW.out]; rfl
        have z0 : w5.frozen? ⟨R, 0, none⟩ = false := Lib.frozen_of_heap HKW.out 0
        have z1 : w5.frozen? ⟨R, 1, none⟩ = false := Lib.frozen_of_heap HKW.out 1
        have z2 : w5.frozen? ⟨R, 2, none⟩ = false := Lib.frozen_of_heap HKW.out 2
        go_wp2_with fail
        refine (HCN.out _).mono ?_
        rintro e w6 ⟨rfl, rfl⟩
        go_wp2_with fail
        refine mt_ret (R := R) (put3_blk HKW.out (.string ⟨#[]⟩) (.slice none 0 0) (.slice oa fs.length oc)) rfl rfl rfl ?_
        have hbl : Below w.heap.size w (put3 w6 R (.string ⟨#[]⟩) (.slice none 0 0) (.slice oa fs.length oc)) := by
          have h1 := HB2.out
          rw [HR0.out] at h1
          exact (h1.trans (HB.out.mono h1.size)).trans (put3_below (Below.refl _ _) (by rw [HR0.out]; exact Nat.le_refl _) _ _ _)
        refine ⟨⟨none, 0, 0, oa, fs.length, oc, ?_, ?_⟩, hbl⟩
        · rw [HT.out]; rfl
        · rw [HT.out]
          rw [cmp_nil]
          exact ⟨rfl, rfl, rd_zero _ _ _ _, H0.out, by rw [H0.out]; exact rd_zero _ _ _ _⟩
      · obtain ⟨gg, cap, e8, hgb2, hglt, hcl, _⟩ := own_shape HO.out (by omega)
        subst e8
        have HRW := Lib.hid (Rw.own HO.out hml.symm (by omega))
        have HSA := Lib.hid (sort_any gg cap (meths fs) wr w2.heap.size HRW.out hgb2 (by omega))
        rw [hml] at HSA
        have HCA := Lib.hid (fun w hw => compact_any gg cap (srt (meths fs)) w w2.heap.size hw hgb2 (by rw [srt_len, hml]; omega) (by rw [srt_len, hml]; exact hcl))
        have hsl : (srt (meths fs)).length = fs.length := by rw [srt_len, hml]
        rw [hsl] at HCA
        have HGR : Hid (gg ≠ R) := by have := HR2.out; show _ ≠ _; omega
        clear HO HRW hml hsl hglt hcl hgb2 hlt
        generalize hMM : meths fs = M at *
        clear hMM HMN HMM
        go_wp2_with fail
        refine HSA.out.mono ?_
        rintro e w5 ⟨rfl, hrw5, hb5⟩
        have HCC := Lib.hid (HCA.out w5 hrw5)
        have HB5 : Hid (Below w2.heap.size w2 w5) := HB.out.trans hb5
        clear hrw5 hb5
        go_wp2_with fail
        refine HCC.out.mono ?_
        rintro e w6 ⟨rfl, hrd6, hb6⟩
        have HB6 : Hid (Below w2.heap.size w2 w6) := HB5.out.trans hb6
        have HR6 := Lib.hid hrd6
        have HKW := Lib.hid ((HB6.out.block R (Nat.lt_of_lt_of_le (Nat.lt_succ_self R) HR2.out)).trans HK2.out)
        have r0 : w6.cell? ⟨R, 0, none⟩ = some (.string ⟨#[]⟩) := by rw [Lib.cell_of_heap HKW.out]; rfl
        have r1 : w6.cell? ⟨R, 1, none⟩ = some (.slice none 0 0) := by rw [Lib.cell_of_heap HKW.out]; rfl
        have r2 : w6.cell? ⟨R, 2, none⟩ = some (.slice none 0 0) := by rw [Lib.cell_of_heap HKW.out]; rfl
        have z0 : w6.frozen? ⟨R, 0, none⟩ = false := Lib.frozen_of_heap HKW.out 0
        have z1 : w6.frozen? ⟨R, 1, none⟩ = false := Lib.frozen_of_heap HKW.out 1
        have z2 : w6.frozen? ⟨R, 2, none⟩ = false := Lib.frozen_of_heap HKW.out 2
        clear hrd6 hb6
        generalize Go.Lib.compact (srt M) = Z at *
        go_wp2_with fail
        refine mt_ret (R := R) (put3_blk HKW.out (.string ⟨#[]⟩) (.slice none 0 0) (.slice (some ⟨gg, 0, none⟩) Z.length cap)) rfl rfl rfl ?_
        have hbl : Below w.heap.size w (put3 w6 R (.string ⟨#[]⟩) (.slice none 0 0) (.slice (some ⟨gg, 0, none⟩) Z.length cap)) := by
          have h1 := HB2.out
          rw [HR0.out] at h1
          exact (h1.trans (HB6.out.mono h1.size)).trans (put3_below (Below.refl _ _) (by rw [HR0.out]; exact Nat.le_refl _) _ _ _)
        refine ⟨⟨none, 0, 0, some ⟨gg, 0, none⟩, Z.length, cap, ?_, ?_⟩, hbl⟩
        · rw [HT.out]; rfl
        · rw [HT.out]
          exact ⟨rfl, rfl, rd_zero _ _ _ _, rfl, put3_rd HR6.out HGR.out _ _ _⟩
end Go.Proofs.YtgfjkpfjajjidaaDoor
