/- Other branches, with the node behind one word changed. -/
import Derived.Test.YtgfjkpfjajjidaaDoorTrTails
import Derived.Deep.RegionLaw
import Derived.Deep.DrawnRows
namespace Go.Proofs.YtgfjkpfjajjidaaDoor
open Go.RowKit Pl
attribute [local go_sem ↓] Go.wp_at_zero Go.wp_at_succ

theorem Tryd.info107 : (Tryd.prog.info? 107).map (fun i => (i.zero, i.size, i.bytes)) = some (some (.agg #[.string ⟨#[]⟩, .pointer none]), 2, 24) := by kernel_rfl
theorem br_cell1 (l : List BrR) : ∀ u ∈ brCells l, u.oneCell' = true := by
  intro u hu
  obtain ⟨x, hx, hu⟩ := List.mem_flatMap.1 hu
  simp only [brV, List.mem_cons, List.not_mem_nil, or_false] at hu
  rcases hu with rfl | rfl <;> rfl

theorem Rd.ownc {w : World} {base k n : Nat} {e : TypeId} {v : Value} {xs : List Value} (h : w.ownsRow base e k v n xs) : ∃ A c, v = .slice A n c ∧ n ≤ c ∧ Rd w w.heap.size k A n xs := by
  obtain ⟨A, c, e1, h1⟩ := Rd.own h
  refine ⟨A, c, e1, ?_, h1⟩
  rcases h.2 with ⟨h2, h3⟩ | ⟨g, cap, cur, h2, _, _, h3, _⟩
  · omega
  · rw [h2] at e1; cases e1; exact h3
theorem own_sp {w W : World} {base B C k n : Nat} {e : TypeId} {v : Value} {xs : List Value} (h : w.ownsRow base e k v n xs) (hs : Sp B C w W) (hC : C ≤ base) : W.ownsRow base e k v n xs := by
  refine ⟨h.1, ?_⟩
  rcases h.2 with hn | ⟨g, cap, cur, hv, hg, hh, r⟩
  · exact .inl hn
  · exact .inr ⟨g, cap, cur, hv, hg, (hs.2 g (.inr (Nat.le_trans hC hg)) (Array.getElem?_eq_some_iff.1 hh).1).trans hh, r⟩
theorem br_low {w w7 W : World} {B : Nat} {ws : List BrR} {L : List It} (hbr : BrOk w B ws L) (h7 : Below w.heap.size w w7) (hB : B ≤ w.heap.size) (hW : Sp B w.heap.size w7 W) : BrOk W W.heap.size ws L := by
  have h1 := h7.size
  have h2 := hW.1
  exact (hbr.block fun j hj => (hW.2 j (.inl hj) (by omega)).trans (h7.block j (by omega))).wide (by omega)
theorem br_new {w w5 w7 W : World} {B C5 : Nat} (hb : Below w5.heap.size w5 w7) {ws : List BrR} {L : List It} {s : Seg} {ss : List Seg} {e0 : En} {k : Nat} {q : Option Addr} (hbr : BrOk w B ws L) (h7 : Below w.heap.size w w7) (hB : B ≤ w.heap.size) (hW : Sp B w.heap.size w7 W) (hC5 : w.heap.size ≤ C5) (hk : kd s = 0) (hlt : ∃ h : k < ws.length, ws[k].1 = s)
    (hq : ∀ W, Sp B C5 w5 W → Nd W W.heap.size q (wsub s L ++ [(ss, e0)])) : BrOk W W.heap.size (brGo s ws k q) (L ++ [(s :: ss, e0)]) := by
  obtain ⟨h, hs⟩ := hlt
  exact (br_low hbr h7 hB hW).change hk h hs (hq W (hW.back hb hC5))
theorem go_cells (s : Seg) (ws : List BrR) (k : Nat) (q : Option Addr) (sb : ByteArray) (h : mkB s = sb) : brCells (brGo s ws k q) = (brCells (ws.take k) ++ [.string sb, .pointer q]) ++ brCells (ws.drop (k + 1)) := by
  rw [brGo, br_app, br_app, ← h]; rfl

theorem go_cells2 (s : Seg) (ws : List BrR) (k : Nat) (q : Option Addr) (sb : ByteArray) (h : mkB s = sb) : brCells (brGo s ws k q) = brCells (ws.take k) ++ Value.string sb :: Value.pointer q :: brCells (ws.drop (k + 1)) := by
  rw [go_cells s ws k q sb h, List.append_assoc]; rfl
theorem go_cells3 (s : Seg) (ws : List BrR) (k : Nat) (q : Option Addr) (sb : ByteArray) (h : mkB s = sb) (hk : ws.length ≤ k + 1) : brCells (brGo s ws k q) = brCells (ws.take k) ++ [Value.string sb, .pointer q] := by
  rw [go_cells s ws k q sb h, List.drop_of_length_le hk]; simp [brCells]

/-- What a change does. -/
def Chd (B : Nat) (ss : List Seg) (e0 : En) (K : List It) (w : World) (e : Ending) (w' : World) : Prop := ∃ q, e = .returned (.pointer q) ∧ (∀ W, Sp B w.heap.size w' W → Nd W W.heap.size q (K ++ [(ss, e0)])) ∧ Below w.heap.size w w'

theorem br_split (ws : List BrR) (k : Nat) : brCells ws = brCells (ws.take k) ++ brCells (ws.drop k) := by rw [← br_app, List.take_append_drop]
theorem Rd.br_take {w : World} {B : Nat} {A : Option Addr} {ws : List BrR} (h : Rd w B 2 A ws.length (brCells ws)) (k : Nat) (hk : k ≤ ws.length) : Rd w B 2 A k (brCells (ws.take k)) := by
  refine ⟨by rw [br_len, List.length_take]; omega, fun hn => ?_⟩
  obtain ⟨a, e, hl, hc⟩ := h.2 (by omega)
  refine ⟨a, e, hl, fun j u hu => hc j u ?_⟩
  rw [br_split ws k, List.getElem?_append_left (List.getElem?_eq_some_iff.1 hu).1]
  exact hu
theorem add_add (a : Addr) (m j : Nat) : (a.add m).add j = a.add (m + j) := by
  unfold Addr.add
  by_cases hm : m = 0
  · simp [hm]
  · by_cases hj : j = 0
    · simp [hj, hm]
    · simp [hm, hj, Nat.add_assoc]
theorem br_drop {w : World} {B : Nat} {a : Addr} {ws : List BrR} (h : Rd w B 2 (some a) ws.length (brCells ws)) (k : Nat) (hk : k ≤ ws.length) : ∀ j u, (brCells (ws.drop k))[j]? = some u → w.cell? ((a.add (k * 2)).add j) = some u := by
  intro j u hu
  have hne : ws.length ≠ 0 := by
    intro e
    have : ws.drop k = [] := List.drop_of_length_le (by omega)
    rw [this] at hu; cases hu
  obtain ⟨a', e, hl, hc⟩ := h.2 hne
  cases e
  rw [add_add]
  refine hc _ _ ?_
  rw [br_split ws k, List.getElem?_append_right (by rw [br_len, List.length_take]; omega), br_len, List.length_take]
  have : k * 2 + j - min k ws.length * 2 = j := by omega
  rw [this]; exact hu

set_option maxRecDepth 100000 in
set_option maxHeartbeats 4000000 in
theorem br_go49 (u : Nat) (WA : Option Addr) (wn wc : Nat) (ws : List BrR) (s : Seg) (ss : List Seg) (e0 : En) (L : List It) (w : World) (B : Nat) (hB : B ≤ w.heap.size) (hn : wn = ws.length) (hwc : wn ≤ wc) (hr : Rd w B 2 WA wn (brCells ws)) (hb : BrOk w B ws L) (hk : kd s = 0) (hl : L.length ≤ 1000000)
    (hc : ∀ w' p K, Below w.heap.size w w' → Nd w' B p K → K.length ≤ 1000000 → Calls Tryd.prog 48 #[.pointer p, .pointer (some ⟨u, 0, none⟩)] w' (Chd B ss e0 K w')) :
    Calls Tryd.prog 51 #[.slice WA wn wc, .string (mkB s), .func (.func 48) #[] #[.pointer (some ⟨u, 0, none⟩)]] w fun e w' => ∃ WA' wn' wc' ws', e = .returned (.slice WA' wn' wc') ∧ wn' = ws'.length ∧ wn' ≤ wc' ∧ (∀ W, Sp B w.heap.size w' W → RdT W W.heap.size 2 107 WA' wn' (brCells ws') ∧ BrOk W W.heap.size ws' (L ++ [(s :: ss, e0)])) ∧ Below w.heap.size w w' := by
  obtain ⟨i0, hi, hz0, hz1, hz2⟩ := info_parts Tryd.info107
  have HZ := Lib.hid (And.intro hz0 (And.intro hz1 hz2))
  have HR := Lib.hid hr
  have HBR := Lib.hid hb
  have HC := Lib.hid hc
  have HQ := Lib.hid (fun x : Seg => eq_list (mkB x) s)
  have HKD := Lib.hid hk
  subst hn
  have hwl := hb.2.1
  have HWL : Hid (ws.length ≤ 1000000) := by show _ ≤ _; omega
  have hwl2 := HWL.out
  have HBW := Lib.hid hB
  clear hr hb hc hk hwl hz0 hz1 hz2
  have HS : Hid (mkB s = mkB s) := rfl
  generalize hsb : mkB s = sb at *
  have hsd : sb.data.toList = s := by rw [← hsb, mkB_data]
  have HE := Lib.hid (fun a : ByteArray => eq_test a sb)
  have HSB : Hid (mkB s = sb ∧ sb.data.toList = s) := ⟨hsb, hsd⟩
  clear hsb hsd HS
  go_enter Tryd.func51, Tryd.ntmps51
  go_wp2_with fail
  go_loopw [12] (fun i wr => ∃ k : Nat, k ≤ ws.length ∧ i = .int .i64 k ∧ Hid (Below w.heap.size w wr) ∧ Hid (∀ j (hj : j < ws.length), j < k → ws[j].1 ≠ s)) (fun i _ => ws.length - (intOf i).toNat)
  case atStart => exact ⟨0, by omega, rfl, Below.refl _ _, fun j _ hj => absurd hj (by omega)⟩
  case round =>
    obtain ⟨k, hkk, rfl, HB, HN⟩ := hrel
    by_cases hlt : k < ws.length
    · obtain ⟨a, rfl, hab, k0, k1⟩ := br_in (HR.out.below HB.out hB) rfl k hlt
      have hq := HE.out (mkB ws[k].1)
      have HA := Lib.hid (fun v : Value => (Below.refl wr.heap.size wr).alloc (Nat.le_refl _) (.cells #[.string (mkB ws[k].1), v] 107))
      have hiff : mkB ws[k].1 = sb ↔ ws[k].1 = s := ⟨fun h => by rw [← HSB.out.2, ← h, mkB_data], fun h => by rw [h, HSB.out.1]⟩
      by_cases he : ws[k].1 = s
      · rw [decide_eq_true (hiff.2 he)] at hq
        have HWK : Hid (∃ h : k < ws.length, ws[k].1 = s) := ⟨hlt, he⟩
        have HND := Lib.hid (HBR.out.2.2.2 ws[k] (List.getElem_mem hlt))
        rw [he] at HND
        clear he hiff
        generalize ws[k].2 = p at *
        generalize mkB ws[k].1 = x at *
        have i0' : (0 : Int) ≤ (k : Int) := by omega
        have i1 : (k : Int) ≤ (wc : Int) := by omega
        have i2 : (k : Int) < (ws.length : Int) := by omega
        have HB2 : Hid (Below w.heap.size w (wr.alloc (.cells #[.string x, .pointer p] 107))) := bt HB.out (HA.out _)
        have d1 := new_cell4 wr #[.string x, .pointer p] 107 1
        have HLT : Hid (wr.heap.size < (wr.alloc (.cells #[.string x, .pointer p] 107)).heap.size) := by show _ < _; simp
        simp only [List.getElem?_toArray, List.getElem?_cons_succ, List.getElem?_cons_zero] at d1
        go_wp2_with fail
        generalize wr.alloc (.cells #[.string x, .pointer p] 107) = w2 at *
        generalize wr.heap.size = G at *
        have HND2 := Lib.hid (HND.out.keep HB2.out.drew HBW.out)
        have HWLL : Hid ((wsub s L).length ≤ 1000000) := by
          have h1 : (wsub s L).length ≤ L.length := List.length_filterMap_le _ _
          show _ ≤ _; omega
        have HCC := Lib.hid (HC.out w2.drew p (wsub s L) HB2.out.drew HND2.out HWLL.out)
        have HD2 : Hid (Below w2.heap.size w2 w2.drew) := (Below.refl _ _).drew
        have HC1 := Lib.hid (fun w' (h : Below w2.heap.size w2 w') => (h.cell (p := ⟨G, 1, none⟩) HLT.out).trans d1)
        have HRT := Lib.hid (fun w' (h : Below w.heap.size w w') => HR.out.below h HBW.out)
        have HTK := Lib.hid (fun w' (h : Below w.heap.size w w') => (HRT.out w' h).br_take k (by omega))
        have HBB := Lib.hid HB2.out.drew
        have H63 : Hid (k + 1 ≤ maxLen) := by show _ ≤ _; unfold maxLen; omega
        have HBY : Hid ((k + 1) * 24 ≤ 140737488355328) := by show _ ≤ _; omega
        have HOC : Hid (∀ q : Option Addr, ∀ u ∈ [Value.string sb, .pointer q], u.oneCell' = true) := fun q u hu => by
          simp only [List.mem_cons, List.not_mem_nil, or_false] at hu
          rcases hu with rfl | rfl <;> rfl
        have HNW : Hid (∀ (wx : World) (q : Option Addr) j u, [Value.string sb, .pointer q][j]? = some u → (wx.alloc (.cells #[.string sb, .pointer q] 107)).cell? ((⟨wx.heap.size, 0, none⟩ : Addr).add j) = some u) := fun wx q j u hu => by
          rw [add_zero_own]
          exact (new_cell4 wx #[.string sb, .pointer q] 107 j).trans (by simpa using hu)
        clear hl
        go_region_held3 (fun W => W.cell? ⟨G, 1, none⟩ = some (.pointer p)) ((refine HC1.out _ ?_; first | (exact HD2.out.trans (hA5.trans (hb6.mono hA5.size))) | (exact HD2.out.trans (hb5.alloc hb5.size _)) | (exact HD2.out.trans hb5) | (exact HD2.out))) ((first
          | (have hA5 := hb5.alloc hb5.size (.cells #[.string sb, .pointer q] 107)
             refine step_append_full _ (by rfl) (.tmp 24) (.tmp 31) 86 (by rfl) B 107 i0 (.agg #[.string ⟨#[]⟩, .pointer none]) 2 24 Tryd.underlying86 hi HZ.out.1 HZ.out.2.1 HZ.out.2.2 rfl (by decide) (some a) k (brCells (ws.take k)) (by rfl) (HTK.out _ (bt HBB.out hA5)) ⟨w5.heap.size, 0, none⟩ 1 1 [.string sb, .pointer q] (by rfl) rfl (HNW.out w5 q) (HOC.out q) (by decide) H63.out HBY.out ?_
             intro g6 c6 w6 hown6 hgr6
             have hb6 : Below (w5.alloc (.cells #[.string sb, .pointer q] 107)).heap.size (w5.alloc (.cells #[.string sb, .pointer q] 107)) w6 := (Below.refl _ _).grown hgr6 (Nat.le_refl _) (fun k hk => (by cases hk))
             clear hgr6)
          | (go_at_call 48; refine HCC.out.mono ?_; rintro e w5 ⟨q, rfl, hq5, hb5⟩)))
        have j1 : IntKind.i64.wrap ((k : Int) + 1) = (k : Int) + 1 := by rw [IntKind.wrap_i64]; omega
        have j2 : (0 : Int) ≤ (k : Int) + 1 := by omega
        have j3 : (k : Int) + 1 ≤ (ws.length : Int) := by omega
        have j4 : (ws.length : Int) ≤ (wc : Int) := by omega
        have HO6 := Lib.hid hown6
        have HB6 := Lib.hid hb6
        have HB5 := Lib.hid hb5
        have HQ5 := Lib.hid hq5
        have HA5 := Lib.hid hA5
        have HC5 : Hid (w.heap.size ≤ w2.drew.heap.size) := HBB.out.size
        have HCB : Hid (w.heap.size ≤ (w5.alloc (.cells #[.string sb, .pointer q] 107)).heap.size) := Nat.le_trans HBB.out.size hA5.size
        have HH6 : Hid ((w5.alloc (.cells #[.string sb, .pointer q] 107)).heap.size ≤ w6.heap.size) := hb6.size
        have HT6 : Hid (∀ w', Below (w5.alloc (.cells #[.string sb, .pointer q] 107)).heap.size (w5.alloc (.cells #[.string sb, .pointer q] 107)) w' → Below w.heap.size w w') := fun w' h => bt HBB.out (hA5.trans (h.mono hA5.size))
        have HT5 : Hid (∀ w', Below (w5.alloc (.cells #[.string sb, .pointer q] 107)).heap.size (w5.alloc (.cells #[.string sb, .pointer q] 107)) w' → Below w5.heap.size w5 w') := fun w' h => bt ((Below.refl _ _).alloc (Nat.le_refl _) _) h
        have H64 : Hid (k + 1 + (ws.length - (k + 1)) ≤ maxLen) := by show _ ≤ _; unfold maxLen; omega
        have HBZ : Hid ((k + 1 + (ws.length - (k + 1))) * 24 ≤ 140737488355328) := by show _ ≤ _; omega
        have HDL : Hid ((brCells (ws.drop (k + 1))).length = (ws.length - (k + 1)) * 2) := by show _ = _; rw [br_len, List.length_drop]
        have HDC : Hid (∀ j u, (brCells (ws.drop (k + 1)))[j]? = some u → w6.cell? ((a.add ((k + 1) * 2)).add j) = some u) := br_drop (HRT.out _ (HT6.out _ hb6)) (k + 1) (by omega)
        have HCF : Hid (∀ q' : Option Addr, brCells (brGo s ws k q') = brCells (ws.take k) ++ Value.string sb :: Value.pointer q' :: brCells (ws.drop (k + 1))) := fun q' => go_cells2 s ws k q' sb HSB.out.1
        have HLN : Hid ((brGo s ws k q).length = k + 1 + (ws.length - (k + 1))) := by
          show _ = _
          rw [brGo, List.length_append, List.length_append, List.length_take, List.length_drop, List.length_singleton]; omega
        clear hown6 hb6 hb5 hq5 hA5
        by_cases hcap : wc = k + 1
        · have hkl : ws.length = k + 1 := by omega
          obtain ⟨A7, c7, e7, hle7, _⟩ := Rd.ownc HO6.out
          have HR7 : Hid (∀ W, Sp B w.heap.size w6 W → RdT W W.heap.size 2 107 (some ⟨g6, 0, none⟩) (k + 1) (brCells (brGo s ws k q)) ∧ BrOk W W.heap.size (brGo s ws k q) (L ++ [(s :: ss, e0)])) := fun W hW => by
            refine ⟨?_, br_new (HT5.out _ HB6.out) HBR.out (HT6.out _ HB6.out) HBW.out hW HC5.out HKD.out HWK.out HQ5.out⟩
            obtain ⟨A8, c8, e8, _, hr8⟩ := RdT.own (own_sp HO6.out hW HCB.out)
            rw [← go_cells3 s ws k q sb HSB.out.1 (by omega)] at hr8
            cases e8; exact hr8
          cases e7
          have HL7 : Hid (k + 1 = (brGo s ws k q).length) := by
            show _ = _
            have := HLN.out
            omega
          go_wp2_with fail
          go_ret
          exact ⟨_, k + 1, c6, brGo s ws k q, rfl, HL7.out, hle7, HR7.out, HT6.out _ HB6.out⟩
        · have hcap2 : ¬ (wc : Int) = (k : Int) + 1 := by omega
          go_wp2_with (at_builtin; refine wpList_append_own_at _ rfl _ _ 86 rfl (w5.alloc (.cells #[.string sb, .pointer q] 107)).heap.size 107 i0 (.agg #[.string ⟨#[]⟩, .pointer none]) 2 24 Tryd.underlying86 hi HZ.out.1 HZ.out.2.1 HZ.out.2.2 rfl (by decide) (.slice (some ⟨g6, 0, none⟩) (k + 1) c6) (k + 1) (brCells (ws.take k) ++ [.string sb, .pointer q]) rfl HO6.out (a.add ((k + 1) * 2)) (ws.length - (k + 1)) (wc - (k + 1)) (brCells (ws.drop (k + 1))) rfl HDL.out HDC.out (br_cell1 _) H64.out HBZ.out HH6.out ?_)
          intro v7 w7 hown7 hgr7 _ _
          obtain ⟨A7, c7, rfl, hle7, _⟩ := Rd.ownc hown7
          have hb7 : Below (w5.alloc (.cells #[.string sb, .pointer q] 107)).heap.size (w5.alloc (.cells #[.string sb, .pointer q] 107)) w7 := HB6.out.trans ((Below.refl _ _).grown hgr7 HH6.out (fun k hk => (HO6.out.lt k hk).1))
          have HR7 : Hid (∀ W, Sp B w.heap.size w7 W → RdT W W.heap.size 2 107 A7 (k + 1 + (ws.length - (k + 1))) (brCells (brGo s ws k q)) ∧ BrOk W W.heap.size (brGo s ws k q) (L ++ [(s :: ss, e0)])) := fun W hW => by
            refine ⟨?_, br_new (HT5.out _ hb7) HBR.out (HT6.out _ hb7) HBW.out hW HC5.out HKD.out HWK.out HQ5.out⟩
            have hs7 := own_sp hown7 hW (by have := HCB.out; simp at this ⊢; omega)
            obtain ⟨A8, c8, e8, _, hr8⟩ := RdT.own hs7
            rw [← HCF.out] at hr8
            cases e8; exact hr8
          have HB7 := Lib.hid hb7
          clear hown7 hgr7 hb7
          go_wp2_with fail
          go_ret
          exact ⟨A7, _, c7, brGo s ws k q, rfl, HLN.out.symm, hle7, HR7.out, HT6.out _ HB7.out⟩
      · rw [decide_eq_false (fun h => he (hiff.1 h))] at hq
        have HG : Hid (∀ j (hj : j < ws.length), j < k + 1 → ws[j].1 ≠ s) := fun j hj hjk => by
          by_cases e : j = k
          · subst e; exact he
          · exact HN.out j hj (by omega)
        clear he hiff
        generalize ws[k].2 = p at *
        generalize mkB ws[k].1 = x at *
        go_wp2_with fail
        go_roundw
        case rel => exact ⟨k + 1, by omega, by go_num, bt HB.out (HA.out _), HG⟩
        case measure => simp [intOf]; omega
    · have HSN : Hid (s ∉ ws.map (·.1)) := fun hm => by
        obtain ⟨y, hy, e⟩ := List.mem_map.1 hm
        obtain ⟨i, hi, rfl⟩ := List.getElem_of_mem hy
        exact HN.out i hi (by omega) e
      have HWE : Hid (wsub s L = []) := Classical.byContradiction fun hne => HSN.out (HBR.out.2.2.1 s hne)
      have HCC := Lib.hid (HC.out wr.drew none [] HB.out.drew .nil (Nat.zero_le _))
      have HBB := Lib.hid HB.out.drew
      have HTK := Lib.hid (fun w' (h : Below w.heap.size w w') => HR.out.below h HBW.out)
      have H63 : Hid (ws.length + 1 ≤ maxLen) := by show _ ≤ _; unfold maxLen; omega
      have HBY : Hid ((ws.length + 1) * 24 ≤ 140737488355328) := by show _ ≤ _; omega
      have HOC : Hid (∀ q : Option Addr, ∀ u ∈ [Value.string sb, .pointer q], u.oneCell' = true) := fun q u hu => by
        simp only [List.mem_cons, List.not_mem_nil, or_false] at hu
        rcases hu with rfl | rfl <;> rfl
      have HNW : Hid (∀ (wx : World) (q : Option Addr) j u, [Value.string sb, .pointer q][j]? = some u → (wx.alloc (.cells #[.string sb, .pointer q] 107)).cell? ((⟨wx.heap.size, 0, none⟩ : Addr).add j) = some u) := fun wx q j u hu => by
        rw [add_zero_own]
        exact (new_cell4 wx #[.string sb, .pointer q] 107 j).trans (by simpa using hu)
      have HCE : Hid (∀ q' : Option Addr, brCells (ws ++ [(s, q')]) = brCells ws ++ [.string sb, .pointer q']) := fun q' => by rw [br_app, ← HSB.out.1]; rfl
      clear hl
      have j0 : (0 : Int) ≤ (ws.length : Int) := by omega
      have j1 : (ws.length : Int) ≤ (wc : Int) := by omega
      go_wp2_with fail
      go_region_held3 (fun _ => True) (trivial) ((first
          | (have hA5 := hb5.alloc hb5.size (.cells #[.string sb, .pointer q] 107)
             refine step_append_full _ (by rfl) (.tmp 45) (.tmp 50) 86 (by rfl) B 107 i0 (.agg #[.string ⟨#[]⟩, .pointer none]) 2 24 Tryd.underlying86 hi HZ.out.1 HZ.out.2.1 HZ.out.2.2 rfl (by decide) WA ws.length (brCells ws) (by rfl) (HTK.out _ (bt HBB.out hA5)) ⟨w5.heap.size, 0, none⟩ 1 1 [.string sb, .pointer q] (by rfl) rfl (HNW.out w5 q) (HOC.out q) (by decide) H63.out HBY.out ?_
             intro g6 c6 w6 hown6 hgr6
             have hb6 : Below (w5.alloc (.cells #[.string sb, .pointer q] 107)).heap.size (w5.alloc (.cells #[.string sb, .pointer q] 107)) w6 := (Below.refl _ _).grown hgr6 (Nat.le_refl _) (fun k hk => (by cases hk))
             clear hgr6)
          | (go_at_call 48; refine HCC.out.mono ?_; rintro e w5 ⟨q, rfl, hq5, hb5⟩)))
      obtain ⟨A7, c7, e7, hle7, _⟩ := Rd.ownc hown6
      have hCB : w.heap.size ≤ (w5.alloc (.cells #[.string sb, .pointer q] 107)).heap.size := Nat.le_trans HBB.out.size hA5.size
      have HB7 : Hid (Below w.heap.size w w6) := bt HBB.out (hA5.trans (hb6.mono hA5.size))
      have HB5 : Hid (Below w5.heap.size w5 w6) := bt ((Below.refl _ _).alloc (Nat.le_refl _) _) hb6
      have HR7 : Hid (∀ W, Sp B w.heap.size w6 W → RdT W W.heap.size 2 107 A7 (ws.length + 1) (brCells (ws ++ [(s, q)])) ∧ BrOk W W.heap.size (ws ++ [(s, q)]) (L ++ [(s :: ss, e0)])) := fun W hW => by
        refine ⟨?_, (br_low HBR.out HB7.out HBW.out hW).more HKD.out HSN.out (hq5 W (hW.back HB5.out HBB.out.size))⟩
        obtain ⟨A8, c8, e8, _, hr8⟩ := RdT.own (own_sp hown6 hW hCB)
        rw [← HCE.out] at hr8
        have : A8 = A7 := by cases e8.symm.trans e7; rfl
        rw [← this]; exact hr8
      have HE7 := Lib.hid e7
      clear hq5 e7 hown6 hb6 hb5 hA5 hCB
      go_wp2_with fail
      go_ret
      exact ⟨A7, _, c7, ws ++ [(s, q)], congrArg Ending.returned HE7.out, by simp, hle7, HR7.out, HB7.out⟩
set_option maxRecDepth 100000 in
set_option maxHeartbeats 4000000 in
theorem br_go51 (u v : Nat) (WA : Option Addr) (wn wc : Nat) (ws : List BrR) (s : Seg) (ss : List Seg) (e0 : En) (L : List It) (w : World) (B : Nat) (hB : B ≤ w.heap.size) (hn : wn = ws.length) (hwc : wn ≤ wc) (hr : Rd w B 2 WA wn (brCells ws)) (hb : BrOk w B ws L) (hk : kd s = 0) (hl : L.length ≤ 1000000)
    (hc : ∀ w' p K, Below w.heap.size w w' → Nd w' B p K → K.length ≤ 1000000 → Calls Tryd.prog 50 #[.pointer p, .pointer (some ⟨u, 0, none⟩), .pointer (some ⟨v, 0, none⟩)] w' (Chd B ss e0 K w')) :
    Calls Tryd.prog 51 #[.slice WA wn wc, .string (mkB s), .func (.func 50) #[] #[.pointer (some ⟨u, 0, none⟩), .pointer (some ⟨v, 0, none⟩)]] w fun e w' => ∃ WA' wn' wc' ws', e = .returned (.slice WA' wn' wc') ∧ wn' = ws'.length ∧ wn' ≤ wc' ∧ (∀ W, Sp B w.heap.size w' W → RdT W W.heap.size 2 107 WA' wn' (brCells ws') ∧ BrOk W W.heap.size ws' (L ++ [(s :: ss, e0)])) ∧ Below w.heap.size w w' := by
  obtain ⟨i0, hi, hz0, hz1, hz2⟩ := info_parts Tryd.info107
  have HZ := Lib.hid (And.intro hz0 (And.intro hz1 hz2))
  have HR := Lib.hid hr
  have HBR := Lib.hid hb
  have HC := Lib.hid hc
  have HQ := Lib.hid (fun x : Seg => eq_list (mkB x) s)
  have HKD := Lib.hid hk
  subst hn
  have hwl := hb.2.1
  have HWL : Hid (ws.length ≤ 1000000) := by show _ ≤ _; omega
  have hwl2 := HWL.out
  have HBW := Lib.hid hB
  clear hr hb hc hk hwl hz0 hz1 hz2
  have HS : Hid (mkB s = mkB s) := rfl
  generalize hsb : mkB s = sb at *
  have hsd : sb.data.toList = s := by rw [← hsb, mkB_data]
  have HE := Lib.hid (fun a : ByteArray => eq_test a sb)
  have HSB : Hid (mkB s = sb ∧ sb.data.toList = s) := ⟨hsb, hsd⟩
  clear hsb hsd HS
  go_enter Tryd.func51, Tryd.ntmps51
  go_wp2_with fail
  go_loopw [12] (fun i wr => ∃ k : Nat, k ≤ ws.length ∧ i = .int .i64 k ∧ Hid (Below w.heap.size w wr) ∧ Hid (∀ j (hj : j < ws.length), j < k → ws[j].1 ≠ s)) (fun i _ => ws.length - (intOf i).toNat)
  case atStart => exact ⟨0, by omega, rfl, Below.refl _ _, fun j _ hj => absurd hj (by omega)⟩
  case round =>
    obtain ⟨k, hkk, rfl, HB, HN⟩ := hrel
    by_cases hlt : k < ws.length
    · obtain ⟨a, rfl, hab, k0, k1⟩ := br_in (HR.out.below HB.out hB) rfl k hlt
      have hq := HE.out (mkB ws[k].1)
      have HA := Lib.hid (fun v : Value => (Below.refl wr.heap.size wr).alloc (Nat.le_refl _) (.cells #[.string (mkB ws[k].1), v] 107))
      have hiff : mkB ws[k].1 = sb ↔ ws[k].1 = s := ⟨fun h => by rw [← HSB.out.2, ← h, mkB_data], fun h => by rw [h, HSB.out.1]⟩
      by_cases he : ws[k].1 = s
      · rw [decide_eq_true (hiff.2 he)] at hq
        have HWK : Hid (∃ h : k < ws.length, ws[k].1 = s) := ⟨hlt, he⟩
        have HND := Lib.hid (HBR.out.2.2.2 ws[k] (List.getElem_mem hlt))
        rw [he] at HND
        clear he hiff
        generalize ws[k].2 = p at *
        generalize mkB ws[k].1 = x at *
        have i0' : (0 : Int) ≤ (k : Int) := by omega
        have i1 : (k : Int) ≤ (wc : Int) := by omega
        have i2 : (k : Int) < (ws.length : Int) := by omega
        have HB2 : Hid (Below w.heap.size w (wr.alloc (.cells #[.string x, .pointer p] 107))) := bt HB.out (HA.out _)
        have d1 := new_cell4 wr #[.string x, .pointer p] 107 1
        have HLT : Hid (wr.heap.size < (wr.alloc (.cells #[.string x, .pointer p] 107)).heap.size) := by show _ < _; simp
        simp only [List.getElem?_toArray, List.getElem?_cons_succ, List.getElem?_cons_zero] at d1
        go_wp2_with fail
        generalize wr.alloc (.cells #[.string x, .pointer p] 107) = w2 at *
        generalize wr.heap.size = G at *
        have HND2 := Lib.hid (HND.out.keep HB2.out.drew HBW.out)
        have HWLL : Hid ((wsub s L).length ≤ 1000000) := by
          have h1 : (wsub s L).length ≤ L.length := List.length_filterMap_le _ _
          show _ ≤ _; omega
        have HCC := Lib.hid (HC.out w2.drew p (wsub s L) HB2.out.drew HND2.out HWLL.out)
        have HD2 : Hid (Below w2.heap.size w2 w2.drew) := (Below.refl _ _).drew
        have HC1 := Lib.hid (fun w' (h : Below w2.heap.size w2 w') => (h.cell (p := ⟨G, 1, none⟩) HLT.out).trans d1)
        have HRT := Lib.hid (fun w' (h : Below w.heap.size w w') => HR.out.below h HBW.out)
        have HTK := Lib.hid (fun w' (h : Below w.heap.size w w') => (HRT.out w' h).br_take k (by omega))
        have HBB := Lib.hid HB2.out.drew
        have H63 : Hid (k + 1 ≤ maxLen) := by show _ ≤ _; unfold maxLen; omega
        have HBY : Hid ((k + 1) * 24 ≤ 140737488355328) := by show _ ≤ _; omega
        have HOC : Hid (∀ q : Option Addr, ∀ u ∈ [Value.string sb, .pointer q], u.oneCell' = true) := fun q u hu => by
          simp only [List.mem_cons, List.not_mem_nil, or_false] at hu
          rcases hu with rfl | rfl <;> rfl
        have HNW : Hid (∀ (wx : World) (q : Option Addr) j u, [Value.string sb, .pointer q][j]? = some u → (wx.alloc (.cells #[.string sb, .pointer q] 107)).cell? ((⟨wx.heap.size, 0, none⟩ : Addr).add j) = some u) := fun wx q j u hu => by
          rw [add_zero_own]
          exact (new_cell4 wx #[.string sb, .pointer q] 107 j).trans (by simpa using hu)
        clear hl
        go_region_held3 (fun W => W.cell? ⟨G, 1, none⟩ = some (.pointer p)) ((refine HC1.out _ ?_; first | (exact HD2.out.trans (hA5.trans (hb6.mono hA5.size))) | (exact HD2.out.trans (hb5.alloc hb5.size _)) | (exact HD2.out.trans hb5) | (exact HD2.out))) ((first
          | (have hA5 := hb5.alloc hb5.size (.cells #[.string sb, .pointer q] 107)
             refine step_append_full _ (by rfl) (.tmp 24) (.tmp 31) 86 (by rfl) B 107 i0 (.agg #[.string ⟨#[]⟩, .pointer none]) 2 24 Tryd.underlying86 hi HZ.out.1 HZ.out.2.1 HZ.out.2.2 rfl (by decide) (some a) k (brCells (ws.take k)) (by rfl) (HTK.out _ (bt HBB.out hA5)) ⟨w5.heap.size, 0, none⟩ 1 1 [.string sb, .pointer q] (by rfl) rfl (HNW.out w5 q) (HOC.out q) (by decide) H63.out HBY.out ?_
             intro g6 c6 w6 hown6 hgr6
             have hb6 : Below (w5.alloc (.cells #[.string sb, .pointer q] 107)).heap.size (w5.alloc (.cells #[.string sb, .pointer q] 107)) w6 := (Below.refl _ _).grown hgr6 (Nat.le_refl _) (fun k hk => (by cases hk))
             clear hgr6)
          | (go_at_call 50; refine HCC.out.mono ?_; rintro e w5 ⟨q, rfl, hq5, hb5⟩)))
        have j1 : IntKind.i64.wrap ((k : Int) + 1) = (k : Int) + 1 := by rw [IntKind.wrap_i64]; omega
        have j2 : (0 : Int) ≤ (k : Int) + 1 := by omega
        have j3 : (k : Int) + 1 ≤ (ws.length : Int) := by omega
        have j4 : (ws.length : Int) ≤ (wc : Int) := by omega
        have HO6 := Lib.hid hown6
        have HB6 := Lib.hid hb6
        have HB5 := Lib.hid hb5
        have HQ5 := Lib.hid hq5
        have HA5 := Lib.hid hA5
        have HC5 : Hid (w.heap.size ≤ w2.drew.heap.size) := HBB.out.size
        have HCB : Hid (w.heap.size ≤ (w5.alloc (.cells #[.string sb, .pointer q] 107)).heap.size) := Nat.le_trans HBB.out.size hA5.size
        have HH6 : Hid ((w5.alloc (.cells #[.string sb, .pointer q] 107)).heap.size ≤ w6.heap.size) := hb6.size
        have HT6 : Hid (∀ w', Below (w5.alloc (.cells #[.string sb, .pointer q] 107)).heap.size (w5.alloc (.cells #[.string sb, .pointer q] 107)) w' → Below w.heap.size w w') := fun w' h => bt HBB.out (hA5.trans (h.mono hA5.size))
        have HT5 : Hid (∀ w', Below (w5.alloc (.cells #[.string sb, .pointer q] 107)).heap.size (w5.alloc (.cells #[.string sb, .pointer q] 107)) w' → Below w5.heap.size w5 w') := fun w' h => bt ((Below.refl _ _).alloc (Nat.le_refl _) _) h
        have H64 : Hid (k + 1 + (ws.length - (k + 1)) ≤ maxLen) := by show _ ≤ _; unfold maxLen; omega
        have HBZ : Hid ((k + 1 + (ws.length - (k + 1))) * 24 ≤ 140737488355328) := by show _ ≤ _; omega
        have HDL : Hid ((brCells (ws.drop (k + 1))).length = (ws.length - (k + 1)) * 2) := by show _ = _; rw [br_len, List.length_drop]
        have HDC : Hid (∀ j u, (brCells (ws.drop (k + 1)))[j]? = some u → w6.cell? ((a.add ((k + 1) * 2)).add j) = some u) := br_drop (HRT.out _ (HT6.out _ hb6)) (k + 1) (by omega)
        have HCF : Hid (∀ q' : Option Addr, brCells (brGo s ws k q') = brCells (ws.take k) ++ Value.string sb :: Value.pointer q' :: brCells (ws.drop (k + 1))) := fun q' => go_cells2 s ws k q' sb HSB.out.1
        have HLN : Hid ((brGo s ws k q).length = k + 1 + (ws.length - (k + 1))) := by
          show _ = _
          rw [brGo, List.length_append, List.length_append, List.length_take, List.length_drop, List.length_singleton]; omega
        clear hown6 hb6 hb5 hq5 hA5
        by_cases hcap : wc = k + 1
        · have hkl : ws.length = k + 1 := by omega
          obtain ⟨A7, c7, e7, hle7, _⟩ := Rd.ownc HO6.out
          have HR7 : Hid (∀ W, Sp B w.heap.size w6 W → RdT W W.heap.size 2 107 (some ⟨g6, 0, none⟩) (k + 1) (brCells (brGo s ws k q)) ∧ BrOk W W.heap.size (brGo s ws k q) (L ++ [(s :: ss, e0)])) := fun W hW => by
            refine ⟨?_, br_new (HT5.out _ HB6.out) HBR.out (HT6.out _ HB6.out) HBW.out hW HC5.out HKD.out HWK.out HQ5.out⟩
            obtain ⟨A8, c8, e8, _, hr8⟩ := RdT.own (own_sp HO6.out hW HCB.out)
            rw [← go_cells3 s ws k q sb HSB.out.1 (by omega)] at hr8
            cases e8; exact hr8
          cases e7
          have HL7 : Hid (k + 1 = (brGo s ws k q).length) := by
            show _ = _
            have := HLN.out
            omega
          go_wp2_with fail
          go_ret
          exact ⟨_, k + 1, c6, brGo s ws k q, rfl, HL7.out, hle7, HR7.out, HT6.out _ HB6.out⟩
        · have hcap2 : ¬ (wc : Int) = (k : Int) + 1 := by omega
          go_wp2_with (at_builtin; refine wpList_append_own_at _ rfl _ _ 86 rfl (w5.alloc (.cells #[.string sb, .pointer q] 107)).heap.size 107 i0 (.agg #[.string ⟨#[]⟩, .pointer none]) 2 24 Tryd.underlying86 hi HZ.out.1 HZ.out.2.1 HZ.out.2.2 rfl (by decide) (.slice (some ⟨g6, 0, none⟩) (k + 1) c6) (k + 1) (brCells (ws.take k) ++ [.string sb, .pointer q]) rfl HO6.out (a.add ((k + 1) * 2)) (ws.length - (k + 1)) (wc - (k + 1)) (brCells (ws.drop (k + 1))) rfl HDL.out HDC.out (br_cell1 _) H64.out HBZ.out HH6.out ?_)
          intro v7 w7 hown7 hgr7 _ _
          obtain ⟨A7, c7, rfl, hle7, _⟩ := Rd.ownc hown7
          have hb7 : Below (w5.alloc (.cells #[.string sb, .pointer q] 107)).heap.size (w5.alloc (.cells #[.string sb, .pointer q] 107)) w7 := HB6.out.trans ((Below.refl _ _).grown hgr7 HH6.out (fun k hk => (HO6.out.lt k hk).1))
          have HR7 : Hid (∀ W, Sp B w.heap.size w7 W → RdT W W.heap.size 2 107 A7 (k + 1 + (ws.length - (k + 1))) (brCells (brGo s ws k q)) ∧ BrOk W W.heap.size (brGo s ws k q) (L ++ [(s :: ss, e0)])) := fun W hW => by
            refine ⟨?_, br_new (HT5.out _ hb7) HBR.out (HT6.out _ hb7) HBW.out hW HC5.out HKD.out HWK.out HQ5.out⟩
            have hs7 := own_sp hown7 hW (by have := HCB.out; simp at this ⊢; omega)
            obtain ⟨A8, c8, e8, _, hr8⟩ := RdT.own hs7
            rw [← HCF.out] at hr8
            cases e8; exact hr8
          have HB7 := Lib.hid hb7
          clear hown7 hgr7 hb7
          go_wp2_with fail
          go_ret
          exact ⟨A7, _, c7, brGo s ws k q, rfl, HLN.out.symm, hle7, HR7.out, HT6.out _ HB7.out⟩
      · rw [decide_eq_false (fun h => he (hiff.1 h))] at hq
        have HG : Hid (∀ j (hj : j < ws.length), j < k + 1 → ws[j].1 ≠ s) := fun j hj hjk => by
          by_cases e : j = k
          · subst e; exact he
          · exact HN.out j hj (by omega)
        clear he hiff
        generalize ws[k].2 = p at *
        generalize mkB ws[k].1 = x at *
        go_wp2_with fail
        go_roundw
        case rel => exact ⟨k + 1, by omega, by go_num, bt HB.out (HA.out _), HG⟩
        case measure => simp [intOf]; omega
    · have HSN : Hid (s ∉ ws.map (·.1)) := fun hm => by
        obtain ⟨y, hy, e⟩ := List.mem_map.1 hm
        obtain ⟨i, hi, rfl⟩ := List.getElem_of_mem hy
        exact HN.out i hi (by omega) e
      have HWE : Hid (wsub s L = []) := Classical.byContradiction fun hne => HSN.out (HBR.out.2.2.1 s hne)
      have HCC := Lib.hid (HC.out wr.drew none [] HB.out.drew .nil (Nat.zero_le _))
      have HBB := Lib.hid HB.out.drew
      have HTK := Lib.hid (fun w' (h : Below w.heap.size w w') => HR.out.below h HBW.out)
      have H63 : Hid (ws.length + 1 ≤ maxLen) := by show _ ≤ _; unfold maxLen; omega
      have HBY : Hid ((ws.length + 1) * 24 ≤ 140737488355328) := by show _ ≤ _; omega
      have HOC : Hid (∀ q : Option Addr, ∀ u ∈ [Value.string sb, .pointer q], u.oneCell' = true) := fun q u hu => by
        simp only [List.mem_cons, List.not_mem_nil, or_false] at hu
        rcases hu with rfl | rfl <;> rfl
      have HNW : Hid (∀ (wx : World) (q : Option Addr) j u, [Value.string sb, .pointer q][j]? = some u → (wx.alloc (.cells #[.string sb, .pointer q] 107)).cell? ((⟨wx.heap.size, 0, none⟩ : Addr).add j) = some u) := fun wx q j u hu => by
        rw [add_zero_own]
        exact (new_cell4 wx #[.string sb, .pointer q] 107 j).trans (by simpa using hu)
      have HCE : Hid (∀ q' : Option Addr, brCells (ws ++ [(s, q')]) = brCells ws ++ [.string sb, .pointer q']) := fun q' => by rw [br_app, ← HSB.out.1]; rfl
      clear hl
      have j0 : (0 : Int) ≤ (ws.length : Int) := by omega
      have j1 : (ws.length : Int) ≤ (wc : Int) := by omega
      go_wp2_with fail
      go_region_held3 (fun _ => True) (trivial) ((first
          | (have hA5 := hb5.alloc hb5.size (.cells #[.string sb, .pointer q] 107)
             refine step_append_full _ (by rfl) (.tmp 45) (.tmp 50) 86 (by rfl) B 107 i0 (.agg #[.string ⟨#[]⟩, .pointer none]) 2 24 Tryd.underlying86 hi HZ.out.1 HZ.out.2.1 HZ.out.2.2 rfl (by decide) WA ws.length (brCells ws) (by rfl) (HTK.out _ (bt HBB.out hA5)) ⟨w5.heap.size, 0, none⟩ 1 1 [.string sb, .pointer q] (by rfl) rfl (HNW.out w5 q) (HOC.out q) (by decide) H63.out HBY.out ?_
             intro g6 c6 w6 hown6 hgr6
             have hb6 : Below (w5.alloc (.cells #[.string sb, .pointer q] 107)).heap.size (w5.alloc (.cells #[.string sb, .pointer q] 107)) w6 := (Below.refl _ _).grown hgr6 (Nat.le_refl _) (fun k hk => (by cases hk))
             clear hgr6)
          | (go_at_call 50; refine HCC.out.mono ?_; rintro e w5 ⟨q, rfl, hq5, hb5⟩)))
      obtain ⟨A7, c7, e7, hle7, _⟩ := Rd.ownc hown6
      have hCB : w.heap.size ≤ (w5.alloc (.cells #[.string sb, .pointer q] 107)).heap.size := Nat.le_trans HBB.out.size hA5.size
      have HB7 : Hid (Below w.heap.size w w6) := bt HBB.out (hA5.trans (hb6.mono hA5.size))
      have HB5 : Hid (Below w5.heap.size w5 w6) := bt ((Below.refl _ _).alloc (Nat.le_refl _) _) hb6
      have HR7 : Hid (∀ W, Sp B w.heap.size w6 W → RdT W W.heap.size 2 107 A7 (ws.length + 1) (brCells (ws ++ [(s, q)])) ∧ BrOk W W.heap.size (ws ++ [(s, q)]) (L ++ [(s :: ss, e0)])) := fun W hW => by
        refine ⟨?_, (br_low HBR.out HB7.out HBW.out hW).more HKD.out HSN.out (hq5 W (hW.back HB5.out HBB.out.size))⟩
        obtain ⟨A8, c8, e8, _, hr8⟩ := RdT.own (own_sp hown6 hW hCB)
        rw [← HCE.out] at hr8
        have : A8 = A7 := by cases e8.symm.trans e7; rfl
        rw [← this]; exact hr8
      have HE7 := Lib.hid e7
      clear hq5 e7 hown6 hb6 hb5 hA5 hCB
      go_wp2_with fail
      go_ret
      exact ⟨A7, _, c7, ws ++ [(s, q)], congrArg Ending.returned HE7.out, by simp, hle7, HR7.out, HB7.out⟩
end Go.Proofs.YtgfjkpfjajjidaaDoor
