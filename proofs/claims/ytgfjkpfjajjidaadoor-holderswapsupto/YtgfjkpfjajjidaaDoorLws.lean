/- The law's Some: routes that may stand beside those ahead of them. The law's fit. The law's light: few and short. The law's same: are two matches the same? What stands of the laws' routes. -/
import Derived.Test.YtgfjkpfjajjidaaDoorTrTails
import Derived.Test.YtgfjkpfjajjidaaDoorTbCheck
import Derived.Deep.RegionHeld3
import Derived.BigQuiet
import Derived.Deep.DrawnRows
import Derived.Test.YtgfjkpfjajjidaaDoorTrWith
import Derived.Test.YtgfjkpfjajjidaaDoorTrMat
import Derived.Test.YtgfjkpfjajjidaaDoorTbEq
namespace Go.Proofs.YtgfjkpfjajjidaaDoor
open Go.RowKit Pl
attribute [local go_sem ↓] Go.wp_at_zero Go.wp_at_succ

def someOk (out : List Rt) (r : Rt) : Bool := decide (out.length < 24) && (decide (r.m.length + r.p.length < 200) && decide (checkL (out ++ [r]) = 0))
def someS (out : List Rt) (r : Rt) : List Rt := if someOk out r then out ++ [r] else out
def someL (l : List Rt) : List Rt := l.foldl someS []
/-- What always holds of it. -/
def Fine (l : List Rt) : Prop := checkL l = 0 ∧ l.length ≤ 24 ∧ ∀ r ∈ l, r.m.length + r.p.length < 200
theorem fine_step (out : List Rt) (r : Rt) (h : Fine out) : Fine (someS out r) := by
  unfold someS
  split
  · rename_i hk
    simp only [someOk, Bool.and_eq_true, decide_eq_true_eq] at hk
    refine ⟨hk.2.2, by simp; omega, fun x hx => ?_⟩
    rcases List.mem_append.1 hx with hx | hx
    · exact h.2.2 x hx
    · simp at hx; subst hx; exact hk.2.1
  · exact h
theorem fine_fold : ∀ (l out : List Rt), Fine out → Fine (l.foldl someS out)
  | [], _, h => h
  | r :: l, out, h => fine_fold l _ (fine_step out r h)
theorem some_fine (l : List Rt) : Fine (someL l) := fine_fold l [] ⟨by decide, by decide, fun _ h => (by cases h)⟩
theorem some_snoc (l : List Rt) (k : Nat) (h : k < l.length) : someL (l.take (k + 1)) = someS (someL (l.take k)) l[k] := by
  rw [someL, someL, List.take_succ_eq_append_getElem h, List.foldl_append]; rfl

theorem below_dn (B : Nat) (w : World) (n : Nat) : Below B w (w.drewN n) := ⟨rfl, rfl, rfl, Nat.le_refl _, fun _ _ => rfl⟩
theorem Tryd.info31 : (Tryd.prog.info? 31).map (fun i => (i.zero, i.size, i.bytes)) = some (some (.agg #[.string ⟨#[]⟩, .string ⟨#[]⟩, .string ⟨#[]⟩]), 3, 48) := by kernel_rfl
theorem rt_one (l : List Rt) : ∀ u ∈ rtCells l, u.oneCell' = true := by
  intro u hu
  obtain ⟨x, _, hu⟩ := List.mem_flatMap.1 hu
  simp only [rtV, List.mem_cons, List.not_mem_nil, or_false] at hu
  rcases hu with rfl | rfl | rfl <;> rfl

section
variable {P : Program} (w : World)
/-- The same where it is guarded, and wanted. -/
theorem step_append_want {ops : Array Oper} {o : Oper} {a : Act} {K : Act → World → Prop} {Q : Exit → Act → World → Prop} {E : Prop} (hw : Region.wanted o (yielded ops a.tmps) = true) (s x : Operand) (t : TypeId)
    (ho : o.op = .call { callee := .builtin .append, args := #[s, x], argTypes := #[t, t] })
    (B : Nat) (e : TypeId) (i : TypeInfo) (z : Value) (size bytes : Nat) (ht : P.underlying t = some (.slice e)) (hi : P.info? e = some i) (hz : i.zero = some z)
    (hsize : i.size = size) (hby : i.bytes = bytes) (hzs : z.cells.size = size) (hsz : 0 < size)
    (A : Option Addr) (n : Nat) (xs : List Value) (hs : a.eval s = .slice A n n) (hrd : Rd w B size A n xs)
    (ad : Addr) (m c : Nat) (news : List Value) (hx : a.eval x = .slice (some ad) m c) (hl : news.length = m * size) (hnews : ∀ j u, news[j]? = some u → w.cell? (ad.add j) = some u) (h1 : ∀ u ∈ news, u.oneCell' = true)
    (hm : 0 < m) (h63 : n + m ≤ maxLen) (hbytes : (n + m) * bytes ≤ 140737488355328)
    (h : ∀ g cap w', w'.ownsRow w.heap.size e size (.slice (some ⟨g, 0, none⟩) (n + m) cap) (n + m) (xs ++ news) → w.grownBy w' none → K (a.put o.dst (.slice (some ⟨g, 0, none⟩) (n + m) cap)) w') :
    if Region.wanted o (yielded ops a.tmps) = true then Oper.wp P o a w K Q else E := by
  rw [if_pos hw]
  exact wp_append_full w s x t ho B e i z size bytes ht hi hz hsize hby hzs hsz A n xs hs hrd ad m c news hx hl hnews h1 hm h63 hbytes h
end

set_option maxRecDepth 100000 in
set_option maxHeartbeats 4000000 in
theorem some_any (l : List Rt) (A : Option Addr) (c : Nat) (w : World) (hr : Rd w w.heap.size 3 A l.length (rtCells l)) (hw : HB w) (hn : l.length ≤ 1000) (hs : ∀ r ∈ l, r.m.length ≤ 1000000000000000 ∧ r.p.length ≤ 1000000000000000) :
    Calls Tryd.prog 25 #[.slice A l.length c] w fun e w' => ∃ v, e = .returned v ∧ w'.ownsRow w.heap.size 31 3 v (someL l).length (rtCells (someL l)) ∧ Below w.heap.size w w' := by
  obtain ⟨i0, hi, hz0, hz1, hz2⟩ := info_parts Tryd.info31
  have HZ := Lib.hid (And.intro hz0 (And.intro hz1 hz2))
  have HR := Lib.hid hr
  have HW := Lib.hid hw
  have HS := Lib.hid hs
  clear hr hs hw hz0 hz1 hz2
  go_enter Tryd.func25, Tryd.ntmps25
  go_wp2_with fail
  go_loopw [3, 8] (fun v i wr => ∃ k : Nat, k ≤ l.length ∧ i = .int .i64 k ∧ Hid (wr.ownsRow w.heap.size 31 3 v (someL (l.take k)).length (rtCells (someL (l.take k)))) ∧ Hid (Below w.heap.size w wr)) (fun _ i _ => l.length - (intOf i).toNat)
  case atStart => exact ⟨0, by omega, rfl, World.ownsRow_nil _ _ _ _, Below.refl _ _⟩
  case round =>
    obtain ⟨k, hk, rfl, HO, HBL⟩ := hrel
    by_cases hlt : k < l.length
    · obtain ⟨a, rfl, hab, k0, k1, k2⟩ := rt_in (HR.out.below HBL.out (Nat.le_refl _)) rfl k hlt
      obtain ⟨hs0, hs1⟩ := HS.out _ (List.getElem_mem hlt)
      have hsn := some_snoc l k hlt
      have hfn := some_fine (l.take k)
      have hA2 : Below wr.heap.size wr (wr.alloc (.cells #[.string (mkB l[k].m), .string (mkB l[k].p), .string (mkB l[k].h)] 31)) := (Below.refl _ _).alloc (Nat.le_refl _) _
      have hm : ((mkB l[k].m).size : Int) = (l[k].m.length : Int) := by rw [mkB_size]
      have hp : ((mkB l[k].p).size : Int) = (l[k].p.length : Int) := by rw [mkB_size]
      have HRV : Hid (rtV l[k] = [.string (mkB l[k].m), .string (mkB l[k].p), .string (mkB l[k].h)]) := rfl
      generalize hrr : l[k] = r at *
      generalize hOO : someL (l.take k) = O at *
      generalize hO2 : someL (l.take (k + 1)) = O2 at *
      have HO2 := Lib.hid hO2
      have HSN := Lib.hid hsn
      clear hrr hOO hO2 hsn
      generalize hmb : mkB r.m = mb at *
      generalize hpb : mkB r.p = pb at *
      generalize mkB r.h = hb at *
      have HMZ : Hid (mb.size = r.m.length) := by show _ = _; rw [← hmb, mkB_size]
      have HPZ : Hid (pb.size = r.p.length) := by show _ = _; rw [← hpb, mkB_size]
      have hms : mb.size ≤ 1000000000000000 := by have := HMZ.out; omega
      have hps : pb.size ≤ 1000000000000000 := by have := HPZ.out; omega
      obtain ⟨oa, oc, rfl, hoc, hrd⟩ := RdT.own HO.out
      have HRD := Lib.hid hrd.1
      have hOl := hfn.2.1
      have HFN := Lib.hid hfn
      have d0 := new_cell4 wr #[.string mb, .string pb, .string hb] 31 0
      have d1 := new_cell4 wr #[.string mb, .string pb, .string hb] 31 1
      have d2 := new_cell4 wr #[.string mb, .string pb, .string hb] 31 2
      simp only [List.getElem?_toArray, List.getElem?_cons_succ, List.getElem?_cons_zero] at d0 d1 d2
      have HA2 := Lib.hid hA2
      have HMB : Hid (mkB r.m = mb ∧ mkB r.p = pb) := ⟨hmb, hpb⟩
      clear hrd hfn hA2 hmb hpb hm hp hs0 hs1
      have w1 : IntKind.i64.wrap ((mb.size : Int) + (pb.size : Int)) = (mb.size : Int) + (pb.size : Int) := by rw [IntKind.wrap_i64]; omega
      by_cases h24 : O.length < 24
      · have g24 : decide ((O.length : Int) < 24) = true := decide_eq_true (by omega)
        by_cases h200 : mb.size + pb.size < 200
        · have g200 : decide ((mb.size : Int) + (pb.size : Int) < 200) = true := decide_eq_true (by omega)
          have g201 : decide (IntKind.i64.wrap ((mb.size : Int) + (pb.size : Int)) < 200) = true := by rw [w1]; exact g200
          have HGS : Hid (wr.heap.size < (wr.alloc (.cells #[.string mb, .string pb, .string hb] 31)).heap.size) := by show _ < _; simp
          have HCS := Lib.hid (fun wx (h : Below (wr.alloc (.cells #[.string mb, .string pb, .string hb] 31)).heap.size (wr.alloc (.cells #[.string mb, .string pb, .string hb] 31)) wx) => And.intro ((h.cell (p := ⟨wr.heap.size, 0, none⟩) HGS.out).trans d0) (And.intro ((h.cell (p := ⟨wr.heap.size, 1, none⟩) HGS.out).trans d1) ((h.cell (p := ⟨wr.heap.size, 2, none⟩) HGS.out).trans d2)))
          have HNW : Hid (∀ (wx : World) j u, [Value.string mb, .string pb, .string hb][j]? = some u → (wx.alloc (.cells #[.string mb, .string pb, .string hb] 31)).cell? ((⟨wx.heap.size, 0, none⟩ : Addr).add j) = some u) := fun wx j u hu => by
            rw [add_zero_own]
            exact (new_cell4 wx #[.string mb, .string pb, .string hb] 31 j).trans (by simpa using hu)
          have HOC : Hid (∀ u ∈ [Value.string mb, .string pb, .string hb], u.oneCell' = true) := fun u hu => by
            simp only [List.mem_cons, List.not_mem_nil, or_false] at hu
            rcases hu with rfl | rfl | rfl <;> rfl
          have H63 : Hid (O.length + 1 ≤ maxLen) := by show _ ≤ _; unfold maxLen; omega
          have HBY : Hid ((O.length + 1) * 48 ≤ 140737488355328) := by show _ ≤ _; omega
          have HCE : Hid (rtCells (O ++ [r]) = rtCells O ++ [.string mb, .string pb, .string hb]) := by show _ = _; rw [rt_app, ← HRV.out]; simp [rtCells]
          have HLL : Hid ((O ++ [r]).length = O.length + 1) := by show _ = _; simp
          have HPP : Hid (∀ x ∈ O ++ [r], x.p.length ≤ 10000) := fun x hx => by
            rcases List.mem_append.1 hx with hx | hx
            · have := HFN.out.2.2 x hx; omega
            · simp at hx; subst hx; have := HPZ.out; omega
          have HCK := Lib.hid (fun (g6 c6 : Nat) (wx : World) (h1 : Rd wx wx.heap.size 3 (some ⟨g6, 0, none⟩) (O.length + 1) (rtCells (O ++ [r]))) (h2 : HB wx) => (by
            have := check_any (O ++ [r]) (some ⟨g6, 0, none⟩) c6 wx (by rw [HLL.out]; exact h1) h2 (by rw [HLL.out]; omega) HPP.out
            rw [HLL.out] at this
            exact this))
          have HOX := Lib.hid (fun wx (h : Below (wr.alloc (.cells #[.string mb, .string pb, .string hb] 31)).heap.size (wr.alloc (.cells #[.string mb, .string pb, .string hb] 31)) wx) => own_below HO.out (HA2.out.trans (h.mono HA2.out.size)))
          have j0 : (0 : Int) ≤ (O.length : Int) := by omega
          have j1 : (O.length : Int) ≤ (oc : Int) := by omega
          have HB2 : Hid (Below w.heap.size w (wr.alloc (.cells #[.string mb, .string pb, .string hb] 31))) := HBL.out.trans (HA2.out.mono HBL.out.size)
          have HRA := Lib.hid (HRD.out.below (HA2.out.trans (((Below.refl (wr.alloc (.cells #[.string mb, .string pb, .string hb] 31)).heap.size (wr.alloc (.cells #[.string mb, .string pb, .string hb] 31))).drew.alloc (Nat.le_refl _) (.cells #[.string mb, .string pb, .string hb] 31)).mono HA2.out.size)) (Nat.le_refl _))
          have HEQ : Hid (checkL (O ++ [r]) = 0 → O2 = O ++ [r]) := fun h => by
            have h1 := HMZ.out
            have h2 := HPZ.out
            rw [HSN.out, someS, someOk, h]
            simp; omega
          have HNE : Hid (checkL (O ++ [r]) ≠ 0 → O2 = O) := fun h => by
            rw [HSN.out, someS, someOk, decide_eq_false h]; simp
          obtain ⟨q, hq⟩ : ∃ q, checkL (O ++ [r]) = q := ⟨_, rfl⟩
          rw [hq] at HCK HEQ HNE
          clear hq
          go_wp2_with fail
          generalize wr.alloc (.cells #[.string mb, .string pb, .string hb] 31) = w2 at *
          generalize wr.heap.size = G at *
          have HD : Hid (Below w2.heap.size w2 (w2.drew.alloc (.cells #[.string mb, .string pb, .string hb] 31))) := (Below.refl _ _).drew.alloc (Nat.le_refl _) _
          go_region_held3 (fun W => W.cell? ⟨G, 0, none⟩ = some (.string mb) ∧ W.cell? ⟨G, 1, none⟩ = some (.string pb) ∧ W.cell? ⟨G, 2, none⟩ = some (.string hb)) (first | (exact HCS.out _ ((HD.out.trans hb6).trans (hb7.mono (HD.out.trans hb6).size))) | (exact HCS.out _ (HD.out.trans hb6)) | (exact HCS.out _ HD.out) | (exact HCS.out _ (Below.refl _ _).drew)) ((first
            | (go_at_call 26; refine (HCK.out g6 c6 w6 hr6 hh6).mono ?_; rintro e w7 ⟨rfl, hb7⟩)
            | (refine step_append_want _ (by rfl) (.tmp 31) (.tmp 33) 42 (by rfl) G 31 i0 (.agg #[.string ⟨#[]⟩, .string ⟨#[]⟩, .string ⟨#[]⟩]) 3 48 Tryd.underlying42 hi HZ.out.1 HZ.out.2.1 HZ.out.2.2 rfl (by decide) oa O.length (rtCells O) (by rfl) HRA.out ⟨w2.heap.size, 0, none⟩ 1 1 [.string mb, .string pb, .string hb] (by rfl) rfl (HNW.out w2.drew) HOC.out (by decide) H63.out HBY.out ?_
               intro g6 c6 w6 hown6 hgr6
               have hb6 : Below w2.heap.size (w2.drew.alloc (.cells #[.string mb, .string pb, .string hb] 31)) w6 := ((Below.refl _ _).grown hgr6 (Nat.le_refl _) (fun k hk => (by cases hk))).mono (by simp)
               have hh6 := HW.out.below (HB2.out.trans ((HD.out.trans hb6).mono HB2.out.size))
               have hr6 : Rd w6 w6.heap.size 3 (some ⟨g6, 0, none⟩) (O.length + 1) (rtCells (O ++ [r])) := by
                 obtain ⟨A7, c7, e7, h7⟩ := Rd.own hown6
                 cases e7
                 rw [HCE.out]; exact h7
               clear hgr6)))
          have HW7 : Hid (Below w2.heap.size w2 w7) := (HD.out.trans hb6).trans (hb7.mono (HD.out.trans hb6).size)
          have HO7 := Lib.hid (HOX.out _ HW7.out)
          have hw7s : G < w7.heap.size := Nat.lt_of_lt_of_le HGS.out HW7.out.size
          obtain ⟨e0, e1, e2⟩ := HCS.out _ HW7.out
          have HBB7 : Hid (Below w.heap.size w w7) := HB2.out.trans (HW7.out.mono HB2.out.size)
          clear hb6 hb7 hown6 hr6 hh6
          by_cases hq0 : q = 0
          · have HE := Lib.hid (HEQ.out hq0)
            subst hq0
            have HO8 := Lib.hid (own_below HO7.out ((Below.refl w7.heap.size w7).alloc (Nat.le_refl _) (.cells #[.string mb, .string pb, .string hb] 31)))
            have HB8 := Lib.hid (HBB7.out.alloc HBB7.out.size (.cells #[.string mb, .string pb, .string hb] 31))
            go_wp2_with (at_builtin; refine wpList_append_own_at _ rfl _ _ 42 rfl w.heap.size 31 i0 (.agg #[.string ⟨#[]⟩, .string ⟨#[]⟩, .string ⟨#[]⟩]) 3 48 Tryd.underlying42 hi HZ.out.1 HZ.out.2.1 HZ.out.2.2 rfl (by decide) (.slice oa O.length oc) O.length (rtCells O) rfl HO8.out ⟨w7.heap.size, 0, none⟩ 1 1 [.string mb, .string pb, .string hb] rfl rfl (HNW.out w7) HOC.out H63.out HBY.out HB8.out.size ?_)
            intro v9 w9 hown9 hgr9 _ _
            have HB9 : Hid (Below w.heap.size w w9) := HB8.out.trans ((Below.refl _ _).grown hgr9 HB8.out.size (fun k hk => (HO8.out.lt k hk).1))
            rw [← HCE.out, ← HLL.out] at hown9
            have HO9 := Lib.hid hown9
            clear hown9 hgr9
            go_wp2_with fail
            go_roundw
            case rel => exact ⟨k + 1, by omega, by go_num, by show World.ownsRow _ _ _ _ _ _ _; rw [HO2.out, HE.out]; exact HO9.out, HB9⟩
            case measure => simp [intOf]; omega
          · have HE := Lib.hid (HNE.out hq0)
            have hqq : (q == 0) = false := by simpa using hq0
            go_wp2_with fail
            go_roundw
            case rel => exact ⟨k + 1, by omega, by go_num, by show World.ownsRow _ _ _ _ _ _ _; rw [HO2.out, HE.out]; exact HO7.out, HBB7⟩
            case measure => simp [intOf]; omega
        · have HE : Hid (O2 = O) := by
            show _ = _
            have h1 := HMZ.out
            have h2 := HPZ.out
            rw [HSN.out, someS, someOk]
            simp; omega
          have g200 : decide ((mb.size : Int) + (pb.size : Int) < 200) = false := decide_eq_false (by omega)
          have g201 : decide (IntKind.i64.wrap ((mb.size : Int) + (pb.size : Int)) < 200) = false := by rw [w1]; exact g200
          go_wp2_with fail
          go_quiet (fail)
          go_wp2_with fail
          go_roundw
          case rel => exact ⟨k + 1, by omega, by go_num, by show World.ownsRow _ _ _ _ _ _ _; rw [HO2.out, HE.out]; exact own_below HO.out (HA2.out.trans (below_dn _ _ _)), HBL.out.trans ((HA2.out.trans (below_dn _ _ _)).mono HBL.out.size)⟩
          case measure => simp [intOf]; omega
      · have HE : Hid (O2 = O) := by
          show _ = _
          rw [HSN.out, someS, someOk]
          simp; omega
        have g24 : decide ((O.length : Int) < 24) = false := decide_eq_false (by omega)
        go_wp2_with fail
        go_quiet (fail)
        go_wp2_with fail
        go_roundw
        case rel => exact ⟨k + 1, by omega, by go_num, by show World.ownsRow _ _ _ _ _ _ _; rw [HO2.out, HE.out]; exact own_below HO.out (HA2.out.trans (below_dn _ _ _)), HBL.out.trans ((HA2.out.trans (below_dn _ _ _)).mono HBL.out.size)⟩
        case measure => simp [intOf]; omega
    · have hke : k = l.length := by omega
      subst hke
      have hall : l.take l.length = l := List.take_length
      rw [hall] at HO
      obtain ⟨oa, oc, e2, _⟩ := Rd.own HO.out
      subst e2
      go_wp2_with fail
      go_ret
      exact ⟨_, rfl, HO.out, HBL.out⟩
end Go.Proofs.YtgfjkpfjajjidaaDoor

namespace Go.Proofs.YtgfjkpfjajjidaaDoor
open Go.RowKit Pl

theorem rd_new (w : World) (cs : Array Value) (T : TypeId) (k n : Nat) (h : cs.size = n * k) : Rd (w.alloc (.cells cs T)) (w.alloc (.cells cs T)).heap.size k (some ⟨w.heap.size, 0, none⟩) n cs.toList := by
  refine ⟨by simpa using h, fun _ => ⟨_, rfl, by simp, fun j u hu => ?_⟩⟩
  rw [add_zero_own, new_cell4]
  simpa using hu

def fitRs : List Rt := [⟨[71, 69, 84], [47, 58, 121, 47, 98], [112, 117, 116]⟩, ⟨[71, 69, 84], [47, 97, 47, 58, 120], [103, 101, 116]⟩]
theorem fitchk8 : checkL fitRs = 0 := by decide +kernel
theorem fitmat8 : matchL [71, 69, 84] [[97], [98]] fitRs = ⟨[103, 101, 116], [([120], [98])], [], true⟩ := by
  have h : bestL cutL [71, 69, 84] [[97], [98]] fitRs = some ⟨[71, 69, 84], [47, 97, 47, 58, 120], [103, 101, 116]⟩ := by decide +kernel
  unfold matchL
  rw [h]
  rfl
theorem fitpat8 : ∀ r ∈ fitRs, (patL r.p).isSome = true ∧ r.p.length ≤ 10000 := by decide +kernel
/-- What Check gives for With and Match. -/
theorem fine_pat {l : List Rt} (h : Fine l) : ∀ r ∈ l, (patL r.p).isSome = true ∧ r.p.length ≤ 10000 := fun r hr => by
  have h1 := List.all_eq_true.1 (check_zero h.1).1 r hr
  simp only [rightL, Bool.and_eq_true] at h1
  exact ⟨h1.1.1, by have := h.2.2 r hr; omega⟩

set_option maxRecDepth 100000 in
set_option maxHeartbeats 4000000 in
theorem fit_any (w : World) (hw : HB w) : Calls Tryd.prog 7 #[] w fun e w' => e = .returned (.bool true) ∧ Below w.heap.size w w' := by
  have HW := Lib.hid hw
  have HB1 := Lib.hid ((Below.refl w.heap.size w).alloc (Nat.le_refl _) (.cells #[.string ⟨#[71, 69, 84]⟩, .string ⟨#[47, 58, 121, 47, 98]⟩, .string ⟨#[112, 117, 116]⟩, .string ⟨#[71, 69, 84]⟩, .string ⟨#[47, 97, 47, 58, 120]⟩, .string ⟨#[103, 101, 116]⟩] 31))
  have HWI := Lib.hid (with_any none [] fitRs (some ⟨w.heap.size, 0, none⟩) 2 (w.alloc (.cells #[.string ⟨#[71, 69, 84]⟩, .string ⟨#[47, 58, 121, 47, 98]⟩, .string ⟨#[112, 117, 116]⟩, .string ⟨#[71, 69, 84]⟩, .string ⟨#[47, 97, 47, 58, 120]⟩, .string ⟨#[103, 101, 116]⟩] 31)) (Tr.nil _ _) (rd_new w _ 31 3 2 rfl) fitpat8 (by decide))
  have HMT := Lib.hid (fun v wx (h : Tr wx wx.heap.size v fitRs) hp => match_any v fitRs ⟨#[71, 69, 84]⟩ (some ⟨wx.heap.size - 1, 0, none⟩) 2 2 [[97], [98]] wx h (check_good fitchk8) (check_apart fitchk8) hp (by decide))
  rw [show (ByteArray.mk #[71, 69, 84]).data.toList = [71, 69, 84] from rfl, fitmat8] at HMT
  simp only [List.nil_append] at HWI
  have HLN := Lib.hid (fun v wx (h : Tr wx wx.heap.size v fitRs) => len_any wx.heap.size v fitRs wx h)
  rw [show fitRs.length = 2 from rfl] at HLN HWI
  have HHD := Lib.hid (fun wx (h : HB wx) => hand_any ⟨#[103, 101, 116]⟩ wx h)
  rw [show handL (ByteArray.mk #[103, 101, 116]).data.toList = true from by decide] at HHD
  go_enter Tryd.func7, Tryd.ntmps7
  go_wp2_with fail
  refine HWI.out.mono ?_
  rintro e w2 ⟨g2, rfl, htr, hb2⟩
  have HT2 := Lib.hid htr
  have HB2 := Lib.hid (bt HB1.out hb2)
  clear htr hb2
  have HB3 := Lib.hid ((Below.refl w2.heap.size w2).alloc (Nat.le_refl _) (.cells #[.string ⟨#[97]⟩, .string ⟨#[98]⟩] 9))
  have hm := HMT.out (some ⟨g2, 0, none⟩) (w2.alloc (.cells #[.string ⟨#[97]⟩, .string ⟨#[98]⟩] 9)) (HT2.out.on HB3.out) ⟨rfl, (by have := rd_new w2 #[.string ⟨#[97]⟩, .string ⟨#[98]⟩] 9 1 2 rfl; simp at this ⊢; exact this), Nat.le_refl _, fun _ a h => (by cases h; rfl), by decide, by decide⟩
  rw [show (w2.alloc (.cells #[.string ⟨#[97]⟩, .string ⟨#[98]⟩] 9)).heap.size - 1 = w2.heap.size from by simp] at hm
  have HM := Lib.hid hm
  clear hm
  go_wp2_with fail
  refine HM.out.mono ?_
  rintro e w4 ⟨⟨PA, pn, pc, AA, an, ac, rfl, _, hpn, hrp, han, hra⟩, hb4⟩
  dsimp only at hpn hrp han hra ⊢
  subst hpn
  obtain ⟨a, rfl, hab, hcs⟩ := hrp.2 (by decide)
  have p1 : w4.cell? ⟨a.block, a.off + 1, none⟩ = some (.string (mkB [98])) := by
    have := hcs 1 _ rfl
    unfold Addr.add at this
    rwa [if_neg (by decide)] at this
  have hq1 : ((mkB [103, 101, 116]).toList == [103, 101, 116]) = true := by rw [eq_list]; rfl
  have hq2 : ((mkB [98]).toList == [98]) = true := by rw [eq_list]; rfl
  have HB4 := Lib.hid (bt HB2.out (HB3.out.trans (hb4.mono HB3.out.size)))
  have HT4 := Lib.hid (HT2.out.on (HB3.out.trans (hb4.mono HB3.out.size)))
  have has : a.block < w4.heap.size := hab
  have HA5 := Lib.hid (fun v : Array Value => (Below.refl w4.heap.size w4).alloc (Nat.le_refl _) (.cells v 34))
  have HW4 := Lib.hid (HW.out.below HB4.out)
  clear hrp hcs han hra hb4 hab
  have hl1 : ([([120], [98])] : List PL).length = 1 := rfl
  rw [hl1]
  clear hl1
  generalize mkB [103, 101, 116] = gb at *
  generalize mkB [98] = bb at *
  go_wp2_with fail
  refine (HLN.out _ _ (HT4.out.on (HA5.out _))).mono ?_
  rintro e w5 ⟨rfl, rfl⟩
  go_wp2_with fail
  refine (HHD.out _ (HW4.out.below (HA5.out _))).mono ?_
  rintro e w6 ⟨rfl, rfl⟩
  go_wp2_with fail
  go_ret
  exact ⟨rfl, bt HB4.out (HA5.out _)⟩
end Go.Proofs.YtgfjkpfjajjidaaDoor

namespace Go.Proofs.YtgfjkpfjajjidaaDoor
open Go.RowKit Pl

def sumL (xs : List Seg) : Nat := (xs.map List.length).sum
def lightL (xs : List Seg) : Bool := decide (sumL xs ≤ 1000) && decide (xs.length ≤ 12)
theorem sum_snoc (xs : List Seg) (k : Nat) (h : k < xs.length) : sumL (xs.take (k + 1)) = sumL (xs.take k) + xs[k].length := by
  rw [sumL, sumL, List.take_succ_eq_append_getElem h, List.map_append, List.sum_append]; simp
theorem sum_le (xs : List Seg) (m : Nat) (h : ∀ x ∈ xs, x.length ≤ m) : sumL xs ≤ xs.length * m := by
  induction xs with
  | nil => simp [sumL]
  | cons x xs ih =>
    have h1 := h x (by simp)
    have h2 := ih fun y hy => h y (List.mem_cons_of_mem _ hy)
    rw [sumL] at h2
    rw [sumL, List.map_cons, List.sum_cons, List.length_cons, Nat.add_mul]; omega
theorem sum_few (xs : List Seg) (k : Nat) (h : ∀ x ∈ xs, x.length ≤ 1000000000000000) (h12 : xs.length ≤ 12) : sumL (xs.take k) ≤ 12000000000000000 := by
  obtain ⟨m, hm⟩ : ∃ m, m = 1000000000000000 := ⟨_, rfl⟩
  rw [← hm] at h
  have h1 := sum_le (xs.take k) m fun x hx => h x (List.mem_of_mem_take hx)
  have h2 : (xs.take k).length * m ≤ 12 * m := Nat.mul_le_mul_right _ (by rw [List.length_take]; omega)
  omega
theorem le_sumL {xs : List Seg} {x : Seg} (h : x ∈ xs) : x.length ≤ sumL xs := by
  induction xs with
  | nil => cases h
  | cons y ys ih =>
    rw [sumL, List.map_cons, List.sum_cons]
    rcases List.mem_cons.1 h with e | h
    · subst e; omega
    · have := ih h
      rw [sumL] at this; omega
theorem light_le {xs : List Seg} (h : lightL xs = true) : xs.length ≤ 12 ∧ ∀ x ∈ xs, x.length ≤ 1000 := by
  simp only [lightL, Bool.and_eq_true, decide_eq_true_eq] at h
  refine ⟨h.2, fun x hx => ?_⟩
  have := le_sumL hx
  omega

set_option maxRecDepth 100000 in
set_option maxHeartbeats 2000000 in
theorem light_any (xs : List Seg) (A : Option Addr) (c : Nat) (w : World) (hr : Rd w w.heap.size 1 A xs.length (xs.map strV)) (hn : xs.length ≤ 9223372036854775807) (hs : ∀ x ∈ xs, x.length ≤ 1000000000000000) :
    Calls Tryd.prog 8 #[.slice A xs.length c] w fun e w' => e = .returned (.bool (lightL xs)) ∧ w = w' := by
  have HR := Lib.hid hr
  have HS := Lib.hid hs
  clear hr hs
  go_enter Tryd.func8, Tryd.ntmps8
  go_wp2_with fail
  go_loop [3, 8] (fun s i => ∃ (k : Nat) (z : Int), k ≤ xs.length ∧ i = .int .i64 k ∧ s = .int .i64 z ∧ Hid (xs.length ≤ 12 → z = (sumL (xs.take k) : Nat))) (fun _ i => xs.length - (intOf i).toNat)
  case atStart => exact ⟨0, 0, by omega, rfl, rfl, fun _ => rfl⟩
  case round =>
    obtain ⟨k, z, hk, rfl, rfl, HZ⟩ := hrel
    by_cases hlt : k < xs.length
    · obtain ⟨a, rfl, hab, ka⟩ := HR.out.at hlt (strV xs[k]) (by simp [hlt])
      rw [strV_mk] at ka
      have hsk := HS.out _ (List.getElem_mem hlt)
      have hsz : (mkB xs[k]).size = xs[k].length := mkB_size _
      have hle := fun h => sum_few xs k HS.out h
      have HST : Hid (xs.length ≤ 12 → wrap64 (z + ((mkB xs[k]).size : Int)) = ((sumL (xs.take (k + 1)) : Nat) : Int)) := fun h => by
        rw [HZ.out h, sum_snoc xs k hlt, hsz, wrap64]
        have := hle h
        omega
      clear hsz hsk hle
      generalize mkB xs[k] = xb at *
      go_wp2_with fail
      exact ⟨⟨k + 1, _, by omega, by go_num, rfl, HST⟩, by simp [intOf]; omega⟩
    · have hke : k = xs.length := by omega
      subst hke
      have hall : xs.take xs.length = xs := List.take_length
      rw [hall] at HZ
      by_cases h12 : xs.length ≤ 12
      · have hz := HZ.out h12
        by_cases hs : sumL xs ≤ 1000
        · have HE : Hid (lightL xs = true) := by show _ = _; rw [lightL, decide_eq_true hs, decide_eq_true h12]; rfl
          have g1 : decide (z ≤ 1000) = true := decide_eq_true (by omega)
          have g2 : decide ((xs.length : Int) ≤ 12) = true := decide_eq_true (by omega)
          clear hz
          go_wp2_with fail
          go_ret
          exact ⟨ret_bool (by rw [HE.out]), rfl⟩
        · have HE : Hid (lightL xs = false) := by show _ = _; rw [lightL, decide_eq_false hs]; rfl
          have g1 : decide (z ≤ 1000) = false := decide_eq_false (by omega)
          clear hz
          go_wp2_with fail
          go_ret
          exact ⟨ret_bool (by rw [HE.out]), rfl⟩
      · have HE : Hid (lightL xs = false) := by show _ = _; rw [lightL, decide_eq_false h12]; simp
        have g2 : decide ((xs.length : Int) ≤ 12) = false := decide_eq_false (by omega)
        by_cases hz1 : z ≤ 1000
        · have g1 : decide (z ≤ 1000) = true := decide_eq_true hz1
          go_wp2_with fail
          go_ret
          exact ⟨ret_bool (by rw [HE.out]), rfl⟩
        · have g1 : decide (z ≤ 1000) = false := decide_eq_false hz1
          go_wp2_with fail
          go_ret
          exact ⟨ret_bool (by rw [HE.out]), rfl⟩
end Go.Proofs.YtgfjkpfjajjidaaDoor

namespace Go.Proofs.YtgfjkpfjajjidaaDoor
open Go.RowKit Pl

theorem neq52 (a b c d : ByteArray) (w : World) : (binOp .neq 38 (.agg #[.string a, .string b]) (.agg #[.string c, .string d])).run Tryd.prog w = .ok (.bool (!(a.toList == c.toList && b.toList == d.toList))) w := by
  have ht : Tryd.prog.underlying 38 = some (.struct (Tryd.prog.fieldsOf 38)) := by kernel_rfl
  have hp : Tryd.prog.stoodInHeld 38 = false := by kernel_rfl
  have hf := fields_strings 38 2 (by kernel_rfl)
  rw [run_neq_struct, run_equalIn_struct w 9999 38 _ _ ht hp]
  clear ht
  have hl := congrArg List.length hf
  rw [List.length_map, List.length_map, List.length_range] at hl
  generalize (Tryd.prog.fieldsOf 38).toList = fs at *
  match fs, hl, hf with
  | [f, g], _, hf =>
    simp only [List.map_cons, List.map_nil, List.range, List.range.loop, List.cons.injEq] at hf
    rw [field_step 9998 _ _ f [g] 0 hf.1 a c w (by kernel_rfl) (by kernel_rfl), field_step 9998 _ _ g [] 1 hf.2.1 b d w (by kernel_rfl) (by kernel_rfl)]
    cases (a.toList == c.toList) <;> cases (b.toList == d.toList) <;> simp [Op.eqFields]
theorem ne_param (x y : PL) (w : World) : (binOp .neq 38 (.agg #[.string (mkB x.1), .string (mkB x.2)]) (.agg #[.string (mkB y.1), .string (mkB y.2)])).run Tryd.prog w = .ok (.bool (!decide (x = y))) w := by
  rw [neq52]
  congr 3
  rw [str_eq, str_eq, mkB_data, mkB_data, Bool.eq_iff_iff]
  simp [Prod.ext_iff]

def sameL (s t : Mt) : Bool := decide (s.h = t.h) && (decide (s.ps = t.ps) && decide (s.al = t.al))

theorem below_dm (B : Nat) (w : World) (n : Nat) : Below B w (w.drewN n) := ⟨rfl, rfl, rfl, Nat.le_refl _, fun _ _ => rfl⟩
theorem take_grow {α : Type} {x y : List α} {k : Nat} (h1 : k < x.length) (h2 : k < y.length) (ht : x.take k = y.take k) (he : x[k] = y[k]) : x.take (k + 1) = y.take (k + 1) := by
  rw [List.take_succ_eq_append_getElem h1, List.take_succ_eq_append_getElem h2, ht, he]
theorem seg_in {w : World} {B n : Nat} {A : Option Addr} {l : List Seg} (h : Rd w B 1 A n (l.map strV)) (hn : n = l.length) (k : Nat) (hk : k < l.length) : ∃ a : Addr, A = some a ∧ a.block < B ∧ w.cell? (a.add k) = some (.string (mkB l[k])) := by
  subst hn
  obtain ⟨a, e, h1, h2⟩ := h.at hk (strV l[k]) (by simp [hk])
  exact ⟨a, e, h1, h2⟩

/-- What stands of the law's routes. -/
structure Law (L : List Rt) : Prop where
  few : L.length ≤ 24
  good : Good cutL L
  apart : Apart cutL L
  pat : ∀ r ∈ L, (patL r.p).isSome = true ∧ r.p.length ≤ 10000
theorem law_of (l : List Rt) : Law (someL l) := ⟨(some_fine l).2.1, check_good (some_fine l).1, check_apart (some_fine l).1, fine_pat (some_fine l)⟩
theorem Law.len {L : List Rt} (h : Law L) : L.length ≤ 24 := h.few
theorem Law.sub {L K : List Rt} (h : Law L) (hs : K.Sublist L) : Law K := ⟨Nat.le_trans hs.length_le h.few, fun r hr => h.good r (hs.subset hr), h.apart.sublist hs, fun r hr => h.pat r (hs.subset hr)⟩
theorem Law.perm {L K : List Rt} (h : Law L) (hs : L.Perm K) : Law K :=
  ⟨by rw [← hs.length_eq]; exact h.few, fun r hr => h.good r (hs.mem_iff.2 hr), (hs.pairwise_iff (fun {a b} hab hba => hab ⟨hba.1.symm, hba.2.symm⟩)).1 h.apart, fun r hr => h.pat r (hs.mem_iff.2 hr)⟩
theorem match_perm {L K : List Rt} (h : Law L) (hs : L.Perm K) (m : List UInt8) (x : List Seg) : matchL m x K = matchL m x L := by
  have hk := h.perm hs
  have h1 : bestL cutL m x K = bestL cutL m x L := best_one cutL (best_is cutL m x K hk.good hk.apart) (best_perm cutL hs (best_is cutL m x L h.good h.apart))
  have h2 : allowL cutL x K = allowL cutL x L := allow_one cutL (allow_is cutL x K) (allow_perm cutL hs (allow_is cutL x L))
  unfold matchL
  rw [h1, h2]

theorem params_few : ∀ (p x : List Seg), (paramsL p x).length ≤ p.length
  | [], x => by cases x <;> simp [paramsL]
  | p :: ps, [] => by simp [paramsL]
  | p :: ps, x :: xs => by
    have := params_few ps xs
    rw [paramsL]
    split
    · simp
    · split
      · simp; omega
      · simp; omega
theorem allow_few (l : List Rt) (x : List Seg) : ∀ a : List Seg, (l.foldl (stepA cutL x) a).length ≤ a.length + l.length := by
  induction l with
  | nil => intro a; simp
  | cons r l ih =>
    intro a
    have h1 := ih (stepA cutL x a r)
    have h2 : (stepA cutL x a r).length ≤ a.length + 1 := by
      unfold stepA
      split
      · have : ∀ m b, (insU m b).length ≤ b.length + 1 := by
          intro m b
          induction b with
          | nil => simp [insU]
          | cons c b ihb => unfold insU; split; simp; omega; split <;> simp
        exact this _ _
      · omega
    rw [List.foldl_cons, List.length_cons]; omega
/-- How much a match may tell. -/
theorem mt_few {L : List Rt} (h : Law L) (m : List UInt8) (x : List Seg) : (matchL m x L).ps.length ≤ 100000 ∧ (matchL m x L).al.length ≤ 100000 := by
  unfold matchL
  cases hb : bestL cutL m x L with
  | some r =>
    have hi := best_is cutL m x L h.good h.apart
    rw [hb] at hi
    obtain ⟨hp, _⟩ := h.pat r hi.1
    obtain ⟨q, hq⟩ := Option.isSome_iff_exists.1 hp
    have h1 := params_few (cutL r.p) x
    rw [cut_pat hq] at h1
    have h2 := segs_len (pat_segs hq).1
    refine ⟨?_, by simp⟩
    show (paramsL (cutL r.p) x).length ≤ 100000
    rw [cut_pat hq]; omega
  | none =>
    refine ⟨by simp, ?_⟩
    show (allowL cutL x L).length ≤ 100000
    have := allow_few L x []
    have h2 := h.len
    rw [allowL]; simp at this; omega
theorem MtAt.on {w w' : World} {t : Mt} {hb : ByteArray} {PA : Option Addr} {pn pc : Nat} {AA : Option Addr} {an ac : Nat} (h : MtAt w t hb PA pn pc AA an ac) (hb2 : Below w.heap.size w w') : MtAt w' t hb PA pn pc AA an ac :=
  ⟨h.1, h.2.1, (h.2.2.1.below hb2 (Nat.le_refl _)).wide hb2.size, h.2.2.2.1, (h.2.2.2.2.below hb2 (Nat.le_refl _)).wide hb2.size⟩
theorem same_self (t : Mt) : sameL t t = true := by simp [sameL]

end Go.Proofs.YtgfjkpfjajjidaaDoor
