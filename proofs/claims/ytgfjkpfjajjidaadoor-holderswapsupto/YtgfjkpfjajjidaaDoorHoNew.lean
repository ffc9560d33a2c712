/- The contracts of New, Swap and table.First. -/
import Derived.Test.YtgfjkpfjajjidaaDoorHoLoad
namespace Go.Proofs.YtgfjkpfjajjidaaDoor
open Go.RowKit Pl

theorem snAt_mk {w : World} {G g c : Nat} {A : Option Addr} {l : List Rt} (h1 : Tr w w.heap.size (some ⟨g, 0, none⟩) l) (h2 : g ≠ G) (h3 : Rd w w.heap.size 3 A l.length (rtCells l)) (h4 : l.length ≤ c) (h5 : ∃ cs fr, w.heap[g]? = some (.cells cs 60 fr)) (h6 : Ty w 31 A l.length) : SnAt w G (some ⟨g, 0, none⟩) A l.length c l :=
  ⟨h1, fun a e => by cases e; exact h2, h3, rfl, h4, fun a e => by cases e; exact h5, h6⟩
theorem cs_on {w w' : World} {g : Nat} {t : TypeId} (h : ∃ cs fr, w.heap[g]? = some (.cells cs t fr)) (hb : Below w.heap.size w w') : ∃ cs fr, w'.heap[g]? = some (.cells cs t fr) := by
  obtain ⟨cs, fr, h1⟩ := h
  exact ⟨cs, fr, (hb.block _ (blk_sz h1)).trans h1⟩
theorem Ty.on {w w' : World} {e : TypeId} {A : Option Addr} {n : Nat} (h : Ty w e A n) (hb : Below w.heap.size w w') : Ty w' e A n := fun h0 a ea => by
  obtain ⟨cs, fr, h1⟩ := h h0 a ea
  exact ⟨cs, fr, (hb.block _ (blk_sz h1)).trans h1⟩
theorem tr_lt {w : World} {B g : Nat} {l : List Rt} (h : Tr w B (some ⟨g, 0, none⟩) l) : g < B := by
  rcases h with ⟨h1, _⟩ | ⟨g', rv, e, hg, _⟩
  · cases h1
  · cases e; exact hg

set_option maxRecDepth 100000 in
set_option maxHeartbeats 8000000 in
theorem new_low (l : List Rt) (A : Option Addr) (n c : Nat) (L : List Rt) (A2 : Option Addr) (c2 : Nat) (w : World) (hck : Calls Tryd.prog 26 #[.slice A n c] w fun e w' => e = .returned (.int .i64 (checkL l)) ∧ Below w.heap.size w w')
    (hA2 : (checkL l = 0 ∧ A2 = A ∧ L.length = n ∧ c2 = c) ∨ (checkL l ≠ 0 ∧ A2 = none ∧ L.length = 0 ∧ c2 = 0)) (htk : ∀ wx, Below w.heap.size w wx → Calls Tryd.prog 27 #[.int .i64 1, .slice A2 L.length c2] wx fun e w' => ∃ g A' c', e = .returned (.agg #[.pointer (some ⟨g, 0, none⟩), .int .i64 1, .slice A' L.length c']) ∧ Tr w' w'.heap.size (some ⟨g, 0, none⟩) L ∧ wx.heap.size ≤ g ∧ L.length ≤ c' ∧ Rd w' w'.heap.size 3 A' L.length (rtCells L) ∧ Below wx.heap.size wx w' ∧ (∃ cs fr, w'.heap[g]? = some (.cells cs 60 fr)) ∧ Ty w' 31 A' L.length) :
    Calls Tryd.prog 12 #[.slice A n c] w fun e w' => ∃ G v A' c', e = .returned (.pointer (some ⟨G, 0, none⟩)) ∧ HoAt w' G v A' L.length c' L 1 ∧ w.heap.size ≤ G ∧ Below w.heap.size w w' := by
  have HCK := Lib.hid hck
  have HTK := Lib.hid htk
  have HMK := Lib.hid (fun (W : World) (G g c : Nat) (A : Option Addr) h1 h2 h3 h4 h5 h6 => snAt_mk (w := W) (G := G) (g := g) (c := c) (A := A) (l := L) h1 h2 h3 h4 h5 h6)
  have HCS : Hid (∃ cs, rtCells L = cs) := ⟨_, rfl⟩
  clear hck htk
  generalize checkL l = K at *
  generalize hn : L.length = n2 at *
  rcases hA2 with ⟨hK, rfl, rfl, rfl⟩ | ⟨hK, rfl, rfl, rfl⟩
  · subst hK
    go_enter Tryd.func12, Tryd.ntmps12
    go_wp2_with fail
    refine HCK.out.mono ?_
    rintro e w1 ⟨rfl, hb1⟩
    have HB1 := Lib.hid hb1
    clear hb1
    go_wp2_with fail
    refine (HTK.out w1 HB1.out).mono ?_
    rintro e w2 ⟨g, A', c', rfl, ht, hg, hc, hr, hb2, hy, hty⟩
    have HB2 := Lib.hid (bt HB1.out hb2)
    have hA := (Below.refl w2.heap.size w2).alloc (Nat.le_refl _) (.cells #[.pointer (some ⟨g, 0, none⟩), .int .i64 1, .slice A' n2 c'] 77)
    have HAL := Lib.hid hA
    have HBK : Hid (HoBk (w2.alloc (.cells #[.pointer (some ⟨g, 0, none⟩), .int .i64 1, .slice A' n2 c'] 77)) w2.heap.size 77 (some ⟨g, 0, none⟩) A' n2 c' 1) := heap_alloc_new w2 _
    have HSN := Lib.hid (HMK.out (w2.alloc (.cells #[.pointer (some ⟨g, 0, none⟩), .int .i64 1, .slice A' n2 c'] 77)) w2.heap.size g c' A' (ht.on hA) (Nat.ne_of_lt (tr_lt ht)) ((hr.below hA (Nat.le_refl _)).wide hA.size) hc (cs_on hy hA) (hty.on hA))
    clear ht hg hc hr hb2 hA hy hty
    go_wp2_with fail
    go_ret
    exact ⟨w2.heap.size, some ⟨g, 0, none⟩, A', c', rfl, ⟨HBK.out, HSN.out⟩, HB2.out.size, HB2.out.trans (HAL.out.mono HB2.out.size)⟩
  · have hKb : (!(K == 0)) = true := by simp [hK]
    have hKc : (K == 0) = false := by simp [hK]
    go_enter Tryd.func12, Tryd.ntmps12
    go_wp2_with fail
    refine HCK.out.mono ?_
    rintro e w1 ⟨rfl, hb1⟩
    have HB1 := Lib.hid hb1
    clear hb1
    go_wp2_with fail
    refine (HTK.out w1 HB1.out).mono ?_
    rintro e w2 ⟨g, A', c', rfl, ht, hg, hc, hr, hb2, hy, hty⟩
    have HB2 := Lib.hid (bt HB1.out hb2)
    have hA := (Below.refl w2.heap.size w2).alloc (Nat.le_refl _) (.cells #[.pointer (some ⟨g, 0, none⟩), .int .i64 1, .slice A' 0 c'] 77)
    have HAL := Lib.hid hA
    have HBK : Hid (HoBk (w2.alloc (.cells #[.pointer (some ⟨g, 0, none⟩), .int .i64 1, .slice A' 0 c'] 77)) w2.heap.size 77 (some ⟨g, 0, none⟩) A' 0 c' 1) := heap_alloc_new w2 _
    have HSN := Lib.hid (HMK.out (w2.alloc (.cells #[.pointer (some ⟨g, 0, none⟩), .int .i64 1, .slice A' 0 c'] 77)) w2.heap.size g c' A' (ht.on hA) (Nat.ne_of_lt (tr_lt ht)) ((hr.below hA (Nat.le_refl _)).wide hA.size) hc (cs_on hy hA) (hty.on hA))
    clear ht hg hc hr hb2 hA hy hty
    go_wp2_with fail
    go_ret
    exact ⟨w2.heap.size, some ⟨g, 0, none⟩, A', c', rfl, ⟨HBK.out, HSN.out⟩, HB2.out.size, HB2.out.trans (HAL.out.mono HB2.out.size)⟩

theorem new_any (l : List Rt) (A : Option Addr) (c : Nat) (w : World) (hr : Rd w w.heap.size 3 A l.length (rtCells l)) (hw : HB w) (hn : l.length ≤ 100000) (hs : ∀ r ∈ l, r.p.length ≤ 10000) :
    Calls Tryd.prog 12 #[.slice A l.length c] w fun e w' => ∃ G v A' c', e = .returned (.pointer (some ⟨G, 0, none⟩)) ∧ HoAt w' G v A' (newL l).length c' (newL l) 1 ∧ w.heap.size ≤ G ∧ Below w.heap.size w w' := by
  by_cases h : checkL l = 0
  · have e : newL l = l := if_pos h
    rw [e]
    exact new_low l A l.length c l A c w (check_any l A c w hr hw hn hs) (.inl ⟨h, rfl, rfl, rfl⟩) fun wx hb => taken_any 1 l A c wx ((hr.below hb (Nat.le_refl _)).wide hb.size) (law_check h hs)
  · have e : newL l = [] := if_neg h
    rw [e]
    exact new_low l A l.length c [] none 0 w (check_any l A c w hr hw hn hs) (.inr ⟨h, rfl, rfl, rfl⟩) fun wx _ => taken_any 1 [] none 0 wx (rd_zero _ _ _ _) law_nil

set_option maxRecDepth 100000 in
set_option maxHeartbeats 4000000 in
theorem first_rows (w : World) : Calls Tryd.prog 13 #[] w fun e w' => e = .returned (.slice (some ⟨w.heap.size, 0, none⟩) 8 8) ∧ Rd w' w'.heap.size 3 (some ⟨w.heap.size, 0, none⟩) 8 (rtCells firstR) ∧ Below w.heap.size w w' := by
  go_enter Tryd.func13, Tryd.ntmps13
  go_wp2_with fail
  go_ret
  exact ⟨rfl, rd_new w _ 31 3 8 rfl, (Below.refl _ _).alloc (Nat.le_refl _) _⟩
end Go.Proofs.YtgfjkpfjajjidaaDoor
