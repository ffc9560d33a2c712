/- The contract of table.Parse. -/
import Derived.Test.YtgfjkpfjajjidaaDoorTbCheck
import Derived.Deep.LoopGhost
import Derived.Laws.Rows
namespace Go.Proofs.YtgfjkpfjajjidaaDoor
open Go.RowKit Pl

theorem Tryd.info31 : (Tryd.prog.info? 31).map (fun i => (i.zero, i.size, i.bytes)) = some (some (.agg #[.string ⟨#[]⟩, .string ⟨#[]⟩, .string ⟨#[]⟩]), 3, 48) := by kernel_rfl

theorem line_small {x : List UInt8} {r : Rt} (h : lineL x = some (some r)) : r.m.length ≤ x.length ∧ r.p.length ≤ x.length ∧ r.h.length ≤ x.length := by
  unfold lineL at h
  split at h
  · cases h
  · split at h
    · cases h
    · split at h
      · cases h
      · split at h
        · cases h
          refine ⟨word_len _, Nat.le_trans (word_len _) (rest_len _), Nat.le_trans (word_len _) (Nat.le_trans (rest_len _) (rest_len _))⟩
        · cases h
theorem lines_small : ∀ (ws : List (List UInt8)) (l : List Rt), linesL ws = some l → l.length ≤ ws.length ∧ ∀ n, (∀ x ∈ ws, x.length ≤ n) → ∀ r ∈ l, r.m.length ≤ n ∧ r.p.length ≤ n ∧ r.h.length ≤ n
  | [], l, h => by cases h; exact ⟨Nat.le_refl _, fun n _ r hr => nomatch hr⟩
  | x :: ws, l, h => by
    rw [linesL] at h
    cases hx : lineL x with
    | none => rw [hx] at h; cases h
    | some o =>
      rw [hx] at h
      cases o with
      | none =>
        obtain ⟨h1, h2⟩ := lines_small ws l h
        exact ⟨by simp; omega, fun n hn r hr => h2 n (fun y hy => hn y (by simp [hy])) r hr⟩
      | some q =>
        obtain ⟨l', h', rfl⟩ := Option.map_eq_some_iff.1 h
        obtain ⟨h1, h2⟩ := lines_small ws l' h'
        refine ⟨by simp; omega, fun n hn r hr => ?_⟩
        rcases List.mem_cons.1 hr with rfl | hr
        · have h3 := hn x (by simp)
          have h4 := line_small hx
          omega
        · exact h2 n (fun y hy => hn y (by simp [hy])) r hr

def restN (x : List UInt8) : Nat → List UInt8
  | 0 => x
  | n + 1 => restL (restN x n)
theorem restN_len (x : List UInt8) : ∀ n, (restN x n).length ≤ x.length
  | 0 => Nat.le_refl _
  | n + 1 => Nat.le_trans (rest_len _) (restN_len x n)
def wordN (x : List UInt8) (n : Nat) : List UInt8 := wordL (restN x n)
theorem line_n (x : List UInt8) : lineL x = if wordN x 0 = [] then some none else if wordN x 1 = [] then none else if wordN x 2 = [] then none else if wordN x 3 = [] then some (some ⟨wordN x 0, wordN x 1, wordN x 2⟩) else none := rfl

theorem set_heap {w : World} {g i : Nat} {cs : Array Value} {t : TypeId} (v : Value) (h : w.heap[g]? = some (.cells cs t)) : (w.setCell ⟨g, i, none⟩ v).heap[g]? = some (.cells (cs.setIfInBounds i v) t) := heap_setCell_same w g i cs t v h

theorem new_three (w : World) (x y z : Value) (t : TypeId) : ∀ j u, [x, y, z][j]? = some u → (w.alloc (.cells #[x, y, z] t)).cell? ((⟨w.heap.size, 0, none⟩ : Addr).add j) = some u := by
  intro j u hj
  rw [add_zero_own, new_cell]
  simpa using hj

def cellsJ (x : List UInt8) : Nat → Array Value
  | 0 => #[.string ⟨#[]⟩, .string ⟨#[]⟩, .string ⟨#[]⟩]
  | 1 => #[.string (mkB (wordN x 0)), .string ⟨#[]⟩, .string ⟨#[]⟩]
  | 2 => #[.string (mkB (wordN x 0)), .string (mkB (wordN x 1)), .string ⟨#[]⟩]
  | _ => #[.string (mkB (wordN x 0)), .string (mkB (wordN x 1)), .string (mkB (wordN x 2))]
theorem own_fresh {w w' : World} {B : Nat} {e : TypeId} {k n : Nat} {v : Value} {xs : List Value} (h : w.ownsRow B e k v n xs) (hb : Below w.heap.size w w') : Hid (w'.ownsRow B e k v n xs) := own_below h hb

set_option maxRecDepth 100000 in
set_option maxHeartbeats 8000000 in
theorem parse_any (s : ByteArray) (w : World) (hw : HB w) (hs : s.size ≤ 10000) :
    Calls Tryd.prog 14 #[.string s] w fun e w' => ∃ v, e = .returned (.tuple #[v, .int .i64 (parseL s.data.toList).2]) ∧ w'.ownsRow w.heap.size 31 3 v (parseL s.data.toList).1.length (rtCells (parseL s.data.toList).1) ∧ Below w.heap.size w w' := by
  obtain ⟨i0, hi, hz0, hz1, hz2⟩ := info_parts Tryd.info31
  have HI := Lib.hid hi; have HZ0 := Lib.hid hz0; have HZ1 := Lib.hid hz1; have HZ2 := Lib.hid hz2
  have HW := Lib.hid hw
  have HWD := Lib.hid (fun w => words_any s 10 w (by omega))
  obtain ⟨ws, hws⟩ : ∃ ws, wordsB 10 s.data.toList = ws := ⟨_, rfl⟩
  have HWS : Hid (∀ x ∈ ws, x.length ≤ 10000) := fun x hx => by have := words_small 10 s.data.toList x (by rw [hws]; exact hx); rw [data_len] at this; omega
  have hwn : ws.length ≤ 10001 := by have := words_many 10 s.data.toList; rw [data_len, hws] at this; omega
  obtain ⟨PR, hPR⟩ : ∃ p, parseL s.data.toList = p := ⟨_, rfl⟩
  have HPN : Hid (linesL ws = none → PR = ([], 1)) := fun h => by rw [← hPR, parseL, hws, h]
  have HPS : Hid (∀ l, linesL ws = some l → PR = if checkL l = 0 then (l, 0) else ([], checkL l)) := fun l h => by rw [← hPR, parseL, hws, h]
  obtain ⟨LN, hLN⟩ : ∃ q, linesL ws = q := ⟨_, rfl⟩
  rw [hLN] at HPN HPS
  have HLN := Lib.hid hLN
  rw [hPR]
  rw [hws] at HWD
  have HLS := Lib.hid (fun l h => lines_small ws l h)
  clear hi hz0 hz1 hz2 hw hws hPR hLN
  go_enter Tryd.func14, Tryd.ntmps14
  go_wp2_with fail
  go_step3
  go_wp2_with fail
  go_step3
  go_wp2_with fail
  refine (HWD.out _).mono ?_
  rintro e w1 ⟨v1, rfl, ho1, hb1⟩
  obtain ⟨A1, c1, rfl, hr1⟩ := Rd.own ho1
  have HR1 := Lib.hid hr1
  have HB1 := Lib.hid hb1
  clear ho1 hr1 hb1
  go_wp2_with fail
  go_loopg [4, 15] ws.length (fun g v i wx => ∃ (k : Nat) (acc : List Rt), k + g = ws.length ∧ acc.length ≤ k ∧ i = .int .i64 k ∧ Hid (wx.ownsRow w1.heap.size 31 3 v acc.length (rtCells acc)) ∧ Hid (Below w1.heap.size w1 wx) ∧ Hid (LN = (linesL (ws.drop k)).map (acc ++ ·)))
  case atStart => exact ⟨0, [], by omega, Nat.le_refl _, rfl, World.ownsRow_nil _ _ _ _, Below.refl _ _, by show _ = _; rw [← HLN.out]; simp⟩
  case round =>
    obtain ⟨k, acc, hkg, hak, rfl, HO, HB, HV⟩ := hrel
    cases gk with
    | zero =>
      have hkz : ¬ ((k : Int) < (ws.length : Int)) := by omega
      have HE : Hid (LN = some acc) := by
        have := HV.out
        rw [List.drop_of_length_le (by omega)] at this
        show _ = _
        rw [this]; simp [linesL]
      obtain ⟨A0, c0, rfl, hrd0⟩ := Rd.own HO.out
      have hsm := HLS.out acc (HLN.out.trans HE.out)
      have HCK := Lib.hid (check_any acc A0 c0 wr hrd0 ((HW.out.below HB1.out).below HB.out) (by omega) (fun r hr => (hsm.2 10000 HWS.out r hr).2.1))
      have hpr := HPS.out acc HE.out
      clear hrd0 hsm
      rcases check_cases acc with hc | hc | hc | hc
      · rw [hc] at HCK
        rw [if_pos hc] at hpr
        have HP := Lib.hid hpr
        clear hpr hc
        go_wp2_with fail
        refine HCK.out.mono ?_
        rintro e w5 ⟨rfl, hb5⟩
        go_wp2_with fail
        try rw [Exit.noGoto_ret]
        go_ret2
        rw [HP.out]
        exact ⟨_, rfl, own_wide (own_below HO.out hb5) HB1.out.size, bt HB1.out (HB.out.trans (hb5.mono HB.out.size))⟩
      all_goals
        rw [hc] at HCK hpr
        have HP := Lib.hid hpr
        clear hpr hc
        go_wp2_with fail
        refine HCK.out.mono ?_
        rintro e w5 ⟨rfl, hb5⟩
        go_wp2_with fail
        try rw [Exit.noGoto_ret]
        go_ret2
        rw [HP.out]
        exact ⟨_, rfl, World.ownsRow_nil _ _ _ _, bt HB1.out (HB.out.trans (hb5.mono HB.out.size))⟩
    | succ g =>
      have hkz : (k : Int) < (ws.length : Int) := by omega
      have hlt : k < ws.length := by omega
      obtain ⟨wo, hwo⟩ : ∃ x, x = wr := ⟨_, rfl⟩
      subst hwo
      obtain ⟨a1, rfl, hab, hc1⟩ := (HR1.out.below HB.out (Nat.le_refl _)).at hlt (strV ws[k]) (by simp [hlt])
      rw [strV_mk] at hc1
      have hxl : ws[k].length ≤ 10000 := HWS.out _ (List.getElem_mem hlt)
      have hla := lines_at ws k hlt acc
      rw [← HV.out] at hla
      have HLA := Lib.hid hla
      clear hla
      generalize ws[k] = x at *
      have HBA := Lib.hid ((Below.refl wo.heap.size wo).alloc (Nat.le_refl _) (.cells #[.string ⟨#[]⟩, .string ⟨#[]⟩, .string ⟨#[]⟩] 79))
      have HHA := Lib.hid (World.alloc_heap_new wo (.cells #[.string ⟨#[]⟩, .string ⟨#[]⟩, .string ⟨#[]⟩] 79))
      go_wp2_with fail
      go_loopg [6, 19] 3 (fun g2 ln i wy => ∃ j : Nat, j + g2 = 3 ∧ i = .int .i64 j ∧ ln = .string (mkB (restN x j)) ∧ Hid (wy.heap[wo.heap.size]? = some (.cells (cellsJ x j) 79)) ∧ Hid (Below wo.heap.size wo wy) ∧ Hid (∀ t, t < j → wordN x t ≠ []))
      case atStart => exact ⟨0, by omega, rfl, rfl, HHA, HBA, fun t ht => absurd ht (by omega)⟩
      case round =>
        obtain ⟨j, hjg, rfl, rfl, HH, HBY, HNE⟩ := hrel
        have HL : Hid (wo.heap.size < wr.heap.size) := blk_lt HH.out
        cases gk with
        | zero =>
          obtain rfl : j = 3 := by omega
          have hjz : ¬ (((3 : Nat) : Int) < 3) := by omega
          have HNX := Lib.hid (fun w => next_any (mkB (restN x 3)) w (by rw [mkB_size]; have := restN_len x 3; omega))
          rw [mkB_data] at HNX
          change Hid (∀ w, Calls Tryd.prog 29 #[.string (mkB (restN x 3))] w fun e w' => e = .returned (.tuple #[.string (mkB (wordN x 3)), .string (mkB (restN x 4))]) ∧ Below w.heap.size w w') at HNX
          have he := eq_list (mkB (wordN x 3)) []
          rw [mkB_data] at he
          by_cases hz : wordN x 3 = []
          · rw [decide_eq_true hz] at he
            have HQ : Hid (LN = (linesL (ws.drop (k + 1))).map ((acc ++ [(⟨wordN x 0, wordN x 1, wordN x 2⟩ : Rt)]) ++ ·)) := by
              show _ = _
              rw [HLA.out, line_n, if_neg (HNE.out 0 (by omega)), if_neg (HNE.out 1 (by omega)), if_neg (HNE.out 2 (by omega)), if_pos hz]
            clear hz
            generalize mkB (wordN x 3) = wd at *
            generalize mkB (restN x 4) = ln2 at *
            go_wp2_with fail
            refine (HNX.out _).mono ?_
            rintro e w2 ⟨rfl, hb2⟩
            have hh2 := (hb2.block wo.heap.size HL.out).trans HH.out
            have c0 : w2.cell? ⟨wo.heap.size, 0, none⟩ = some (.string (mkB (wordN x 0))) := by rw [Lib.cell_of_heap hh2]; rfl
            have c1 : w2.cell? ⟨wo.heap.size, 1, none⟩ = some (.string (mkB (wordN x 1))) := by rw [Lib.cell_of_heap hh2]; rfl
            have c2 : w2.cell? ⟨wo.heap.size, 2, none⟩ = some (.string (mkB (wordN x 2))) := by rw [Lib.cell_of_heap hh2]; rfl
            have HB2 : Hid (Below wo.heap.size wo w2) := HBY.out.trans (hb2.mono HBY.out.size)
            have HB5 : Hid (Below w1.heap.size w1 w2) := bt HB.out HB2.out
            have HO5 := Lib.hid (own_below HO.out HB2.out)
            have HRT : Hid (rtCells [(⟨wordN x 0, wordN x 1, wordN x 2⟩ : Rt)] = [.string (mkB (wordN x 0)), .string (mkB (wordN x 1)), .string (mkB (wordN x 2))]) := rfl
            clear hb2 hh2
            generalize mkB (wordN x 0) = x0 at *
            generalize mkB (wordN x 1) = x1 at *
            generalize mkB (wordN x 2) = x2 at *
            go_wp2_with (first | (at_builtin; refine wpList_append_own _ rfl _ _ 42 rfl w1.heap.size 31 i0 (.agg #[.string ⟨#[]⟩, .string ⟨#[]⟩, .string ⟨#[]⟩]) 3 48 Tryd.underlying42 HI.out HZ0.out HZ1.out HZ2.out rfl (by decide) _ _ _ rfl (HO5.out.alloc _) ⟨w2.heap.size, 0, none⟩ 1 1 [.string x0, .string x1, .string x2] rfl rfl ?c1 ?c2 ?c3 ?c4 ?c5 ?_))
            case c1 => exact new_three _ _ _ _ _
            case c2 => intro u hu; simp at hu; rcases hu with rfl | rfl | rfl <;> rfl
            case c3 => unfold maxLen; omega
            case c4 => omega
            case c5 => have := HB5.out.size; simp; omega
            intro v' w6 hown' hgrow _
            have hb6 : Below w1.heap.size w1 w6 := (HB5.out.alloc HB5.out.size _).grown hgrow (by have := HB5.out.size; simp; omega) (fun k hk => (HO5.out.lt k hk).1)
            have HO6 : Hid (w6.ownsRow w1.heap.size 31 3 v' (acc ++ [(⟨wordN x 0, wordN x 1, wordN x 2⟩ : Rt)]).length (rtCells (acc ++ [(⟨wordN x 0, wordN x 1, wordN x 2⟩ : Rt)]))) := by
              show World.ownsRow _ _ _ _ _ _ _
              rw [List.length_append, rt_app, HRT.out]
              exact hown'
            have HB6 := Lib.hid hb6
            clear hown' hgrow hb6
            go_wp2_with fail
            go_roundg g
            case measure => omega
            case rel => exact ⟨k + 1, acc ++ [⟨wordN x 0, wordN x 1, wordN x 2⟩], by omega, by simp; omega, by go_num, HO6, HB6, HQ⟩
          · rw [decide_eq_false hz] at he
            have HQ : Hid (PR = ([], 1)) := HPN.out (by rw [HLA.out, line_n, if_neg (HNE.out 0 (by omega)), if_neg (HNE.out 1 (by omega)), if_neg (HNE.out 2 (by omega)), if_neg hz])
            clear hz
            generalize mkB (wordN x 3) = wd at *
            generalize mkB (restN x 4) = ln2 at *
            go_wp2_with fail
            refine (HNX.out _).mono ?_
            rintro e w2 ⟨rfl, hb2⟩
            have HB2 : Hid (Below wo.heap.size wo w2) := HBY.out.trans (hb2.mono HBY.out.size)
            clear hb2
            go_wp2_with fail
            try rw [Exit.noGoto_ret]
            go_ret2
            rw [HQ.out]
            exact ⟨_, rfl, World.ownsRow_nil _ _ _ _, bt HB1.out (bt HB.out HB2.out)⟩
        | succ g2 =>
          match j, hjg, HH, HNE with
          | j + 3, hjg, _, _ => exact absurd hjg (by omega)
          | 0, hjg, HH, HNE =>
            have HNX := Lib.hid (fun w => next_any (mkB (restN x 0)) w (by rw [mkB_size]; have := restN_len x 0; omega))
            rw [mkB_data] at HNX
            change Hid (∀ w, Calls Tryd.prog 29 #[.string (mkB (restN x 0))] w fun e w' => e = .returned (.tuple #[.string (mkB (wordN x 0)), .string (mkB (restN x 1))]) ∧ Below w.heap.size w w') at HNX
            have he := eq_list (mkB (wordN x 0)) []
            rw [mkB_data] at he
            by_cases hz : wordN x 0 = []
            · rw [decide_eq_true hz] at he
              have HQ : Hid (LN = (linesL (ws.drop (k + 1))).map (acc ++ ·)) := by show _ = _; rw [HLA.out, line_n, if_pos hz]
              clear hz
              generalize mkB (wordN x 0) = wd at *
              generalize mkB (restN x 1) = ln2 at *
              go_wp2_with fail
              refine (HNX.out _).mono ?_
              rintro e w2 ⟨rfl, hb2⟩
              have hh2 := (hb2.block wo.heap.size HL.out).trans HH.out
              have cj : w2.cell? ⟨wo.heap.size, 0, none⟩ = some (.string ⟨#[]⟩) := by rw [Lib.cell_of_heap hh2]; rfl
              have fj : w2.frozen? ⟨wo.heap.size, 0, none⟩ = false := Lib.frozen_of_heap hh2 0
              have HB2 : Hid (Below wo.heap.size wo w2) := HBY.out.trans (hb2.mono HBY.out.size)
              clear hb2 hh2
              go_wp2_with fail
              go_roundg g
              case measure => omega
              case rel => exact ⟨k + 1, acc, by omega, by omega, by go_num, own_fresh HO.out (HB2.out.setCell (p := ⟨wo.heap.size, 0, none⟩) (Nat.le_refl _) _), bt HB.out (HB2.out.setCell (p := ⟨wo.heap.size, 0, none⟩) (Nat.le_refl _) _), HQ⟩
            · rw [decide_eq_false hz] at he
              have HQ : Hid (∀ t, t < 0 + 1 → wordN x t ≠ []) := fun t ht => by
                by_cases e : t = 0
                · subst e; exact hz
                · exact HNE.out t (by omega)
              clear hz
              have HSET : Hid (cellsJ x 1 = (cellsJ x 0).setIfInBounds 0 (.string (mkB (wordN x 0)))) := rfl
              generalize mkB (wordN x 0) = wd at *
              generalize hln2 : mkB (restN x 1) = ln2 at *
              have HLN2 := Lib.hid hln2
              clear hln2
              go_wp2_with fail
              refine (HNX.out _).mono ?_
              rintro e w2 ⟨rfl, hb2⟩
              have hh2 := (hb2.block wo.heap.size HL.out).trans HH.out
              have cj : w2.cell? ⟨wo.heap.size, 0, none⟩ = some (.string ⟨#[]⟩) := by rw [Lib.cell_of_heap hh2]; rfl
              have fj : w2.frozen? ⟨wo.heap.size, 0, none⟩ = false := Lib.frozen_of_heap hh2 0
              have HB2 : Hid (Below wo.heap.size wo w2) := HBY.out.trans (hb2.mono HBY.out.size)
              have HH2 := Lib.hid (set_heap (i := 0) (.string wd) hh2)
              clear hb2 hh2
              go_wp2_with fail
              go_roundg g2
              case measure => omega
              case rel => exact ⟨1, by omega, by first | rfl | go_num, by rw [HLN2.out], by rw [HSET.out]; exact HH2, HB2.out.setCell (p := ⟨wo.heap.size, 0, none⟩) (Nat.le_refl _) _, HQ⟩
          | 1, hjg, HH, HNE =>
            have HNX := Lib.hid (fun w => next_any (mkB (restN x 1)) w (by rw [mkB_size]; have := restN_len x 1; omega))
            rw [mkB_data] at HNX
            change Hid (∀ w, Calls Tryd.prog 29 #[.string (mkB (restN x 1))] w fun e w' => e = .returned (.tuple #[.string (mkB (wordN x 1)), .string (mkB (restN x 2))]) ∧ Below w.heap.size w w') at HNX
            have he := eq_list (mkB (wordN x 1)) []
            rw [mkB_data] at he
            by_cases hz : wordN x 1 = []
            · rw [decide_eq_true hz] at he
              have HQ : Hid (PR = ([], 1)) := HPN.out (by rw [HLA.out, line_n, if_neg (HNE.out 0 (by omega)), if_pos hz])
              clear hz
              generalize mkB (wordN x 1) = wd at *
              generalize mkB (restN x 2) = ln2 at *
              go_wp2_with fail
              refine (HNX.out _).mono ?_
              rintro e w2 ⟨rfl, hb2⟩
              have hh2 := (hb2.block wo.heap.size HL.out).trans HH.out
              have cj : w2.cell? ⟨wo.heap.size, 1, none⟩ = some (.string ⟨#[]⟩) := by rw [Lib.cell_of_heap hh2]; rfl
              have fj : w2.frozen? ⟨wo.heap.size, 1, none⟩ = false := Lib.frozen_of_heap hh2 1
              have HB2 : Hid (Below wo.heap.size wo w2) := HBY.out.trans (hb2.mono HBY.out.size)
              clear hb2 hh2
              go_wp2_with fail
              try rw [Exit.noGoto_ret]
              go_ret2
              rw [HQ.out]
              exact ⟨_, rfl, World.ownsRow_nil _ _ _ _, bt HB1.out (bt HB.out (HB2.out.setCell (p := ⟨wo.heap.size, 1, none⟩) (Nat.le_refl _) _))⟩
            · rw [decide_eq_false hz] at he
              have HQ : Hid (∀ t, t < 1 + 1 → wordN x t ≠ []) := fun t ht => by
                by_cases e : t = 1
                · subst e; exact hz
                · exact HNE.out t (by omega)
              clear hz
              have HSET : Hid (cellsJ x 2 = (cellsJ x 1).setIfInBounds 1 (.string (mkB (wordN x 1)))) := rfl
              generalize mkB (wordN x 1) = wd at *
              generalize hln2 : mkB (restN x 2) = ln2 at *
              have HLN2 := Lib.hid hln2
              clear hln2
              go_wp2_with fail
              refine (HNX.out _).mono ?_
              rintro e w2 ⟨rfl, hb2⟩
              have hh2 := (hb2.block wo.heap.size HL.out).trans HH.out
              have cj : w2.cell? ⟨wo.heap.size, 1, none⟩ = some (.string ⟨#[]⟩) := by rw [Lib.cell_of_heap hh2]; rfl
              have fj : w2.frozen? ⟨wo.heap.size, 1, none⟩ = false := Lib.frozen_of_heap hh2 1
              have HB2 : Hid (Below wo.heap.size wo w2) := HBY.out.trans (hb2.mono HBY.out.size)
              have HH2 := Lib.hid (set_heap (i := 1) (.string wd) hh2)
              clear hb2 hh2
              go_wp2_with fail
              go_roundg g2
              case measure => omega
              case rel => exact ⟨2, by omega, by first | rfl | go_num, by rw [HLN2.out], by rw [HSET.out]; exact HH2, HB2.out.setCell (p := ⟨wo.heap.size, 1, none⟩) (Nat.le_refl _) _, HQ⟩
          | 2, hjg, HH, HNE =>
            have HNX := Lib.hid (fun w => next_any (mkB (restN x 2)) w (by rw [mkB_size]; have := restN_len x 2; omega))
            rw [mkB_data] at HNX
            change Hid (∀ w, Calls Tryd.prog 29 #[.string (mkB (restN x 2))] w fun e w' => e = .returned (.tuple #[.string (mkB (wordN x 2)), .string (mkB (restN x 3))]) ∧ Below w.heap.size w w') at HNX
            have he := eq_list (mkB (wordN x 2)) []
            rw [mkB_data] at he
            by_cases hz : wordN x 2 = []
            · rw [decide_eq_true hz] at he
              have HQ : Hid (PR = ([], 1)) := HPN.out (by rw [HLA.out, line_n, if_neg (HNE.out 0 (by omega)), if_neg (HNE.out 1 (by omega)), if_pos hz])
              clear hz
              generalize mkB (wordN x 2) = wd at *
              generalize mkB (restN x 3) = ln2 at *
              go_wp2_with fail
              refine (HNX.out _).mono ?_
              rintro e w2 ⟨rfl, hb2⟩
              have hh2 := (hb2.block wo.heap.size HL.out).trans HH.out
              have cj : w2.cell? ⟨wo.heap.size, 2, none⟩ = some (.string ⟨#[]⟩) := by rw [Lib.cell_of_heap hh2]; rfl
              have fj : w2.frozen? ⟨wo.heap.size, 2, none⟩ = false := Lib.frozen_of_heap hh2 2
              have HB2 : Hid (Below wo.heap.size wo w2) := HBY.out.trans (hb2.mono HBY.out.size)
              clear hb2 hh2
              go_wp2_with fail
              try rw [Exit.noGoto_ret]
              go_ret2
              rw [HQ.out]
              exact ⟨_, rfl, World.ownsRow_nil _ _ _ _, bt HB1.out (bt HB.out (HB2.out.setCell (p := ⟨wo.heap.size, 2, none⟩) (Nat.le_refl _) _))⟩
            · rw [decide_eq_false hz] at he
              have HQ : Hid (∀ t, t < 2 + 1 → wordN x t ≠ []) := fun t ht => by
                by_cases e : t = 2
                · subst e; exact hz
                · exact HNE.out t (by omega)
              clear hz
              have HSET : Hid (cellsJ x 3 = (cellsJ x 2).setIfInBounds 2 (.string (mkB (wordN x 2)))) := rfl
              generalize mkB (wordN x 2) = wd at *
              generalize hln2 : mkB (restN x 3) = ln2 at *
              have HLN2 := Lib.hid hln2
              clear hln2
              go_wp2_with fail
              refine (HNX.out _).mono ?_
              rintro e w2 ⟨rfl, hb2⟩
              have hh2 := (hb2.block wo.heap.size HL.out).trans HH.out
              have cj : w2.cell? ⟨wo.heap.size, 2, none⟩ = some (.string ⟨#[]⟩) := by rw [Lib.cell_of_heap hh2]; rfl
              have fj : w2.frozen? ⟨wo.heap.size, 2, none⟩ = false := Lib.frozen_of_heap hh2 2
              have HB2 : Hid (Below wo.heap.size wo w2) := HBY.out.trans (hb2.mono HBY.out.size)
              have HH2 := Lib.hid (set_heap (i := 2) (.string wd) hh2)
              clear hb2 hh2
              go_wp2_with fail
              go_roundg g2
              case measure => omega
              case rel => exact ⟨3, by omega, by first | rfl | go_num, by rw [HLN2.out], by rw [HSET.out]; exact HH2, HB2.out.setCell (p := ⟨wo.heap.size, 2, none⟩) (Nat.le_refl _) _, HQ⟩

end Go.Proofs.YtgfjkpfjajjidaaDoor
