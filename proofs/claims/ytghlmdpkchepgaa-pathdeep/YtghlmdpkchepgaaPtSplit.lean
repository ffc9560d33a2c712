/- The contract of path.Split. -/
import Derived.Test.YtghlmdpkchepgaaPtTurn
namespace Go.Proofs.Ytghlmdpkchepgaa
open Go.RowKit Pl

theorem set_done (ds : List (List UInt8)) (l : List (List UInt8)) (k : Nat) (h : k < l.length) (hd : ds.length = k) (t : List UInt8) : ((ds ++ l.drop k).map strV).set k (strV t) = ((ds ++ [t]) ++ l.drop (k + 1)).map strV := by
  rw [List.drop_eq_getElem_cons h]
  generalize l[k] = x
  generalize l.drop (k + 1) = r
  subst hd
  simp
theorem get_done (ds : List (List UInt8)) (l : List (List UInt8)) (k : Nat) (h : k < l.length) (hd : ds.length = k) : ((ds ++ l.drop k).map strV)[k]? = some (.string (mkB l[k])) := by
  rw [List.drop_eq_getElem_cons h]
  generalize l[k] = x
  generalize l.drop (k + 1) = r
  subst hd
  simp [strV_mk]
theorem own_wide {w : World} {B C : Nat} {e : TypeId} {k n : Nat} {v : Value} {xs : List Value} (h : w.ownsRow B e k v n xs) (hb : C ≤ B) : w.ownsRow C e k v n xs := by
  refine ⟨h.1, ?_⟩
  rcases h.2 with hn | ⟨g, cap, cur, hv, hg, r⟩
  · exact .inl hn
  · exact .inr ⟨g, cap, cur, hv, Nat.le_trans hb hg, r⟩

set_option maxRecDepth 100000 in
set_option maxHeartbeats 4000000 in
theorem split_any (s : ByteArray) (w : World) (hs : s.size ≤ 10000) : Calls Try.prog 13 #[.string s] w fun e w' => ∃ v, e = .returned (.tuple #[v, .bool (splitL s.data.toList).isSome]) ∧ w'.ownsRow w.heap.size 9 1 v ((splitL s.data.toList).getD []).length (((splitL s.data.toList).getD []).map strV) ∧ Below w.heap.size w w' := by
  have HC := Lib.hid (fun w => cut_any s w (by omega))
  have hal : (mkB (aheadL s.data.toList)).size ≤ s.size := by rw [mkB_size, ← data_len]; exact ahead_len _
  have HG := Lib.hid (fun w => segs_any (mkB (aheadL s.data.toList)) w (by omega))
  rw [mkB_data] at HG
  have hsm := @segs_small (aheadL s.data.toList)
  have hsl := @segs_len (aheadL s.data.toList)
  rw [← mkB_size] at hsm
  have hsp : splitL s.data.toList = match segsL (aheadL s.data.toList) with
    | none => none
    | some l => turnsL l := rfl
  generalize mkB (aheadL s.data.toList) = p at *
  generalize splitL s.data.toList = SP at *
  cases hsg : segsL (aheadL s.data.toList) with
  | none =>
    rw [hsg] at HG hsp
    simp only at hsp
    subst hsp
    clear hsm hsl hsg
    go_enter Try.func13, Try.ntmps13
    go_wp2_with fail
    refine (HC.out _).mono ?_
    rintro e w1 ⟨⟨u, v, rfl⟩, hb1⟩
    go_wp2_with fail
    refine (HG.out _).mono ?_
    rintro e w2 ⟨v2, rfl, ho, hb2⟩
    go_wp2_with fail
    go_ret2
    exact ⟨_, rfl, World.ownsRow_nil _ _ _ _, bt hb1 hb2⟩
  | some l =>
    rw [hsg] at HG hsp
    have HSM := Lib.hid (hsm hsg)
    have hll := hsl hsg
    simp only [Option.getD_some, Option.isSome_some] at HG hsp
    have HSP := Lib.hid hsp
    clear hsm hsl hsg hsp
    go_enter Try.func13, Try.ntmps13
    go_wp2_with fail
    refine (HC.out _).mono ?_
    rintro e w1 ⟨⟨u, v, rfl⟩, hb1⟩
    go_wp2_with fail
    refine (HG.out _).mono ?_
    rintro e w2 ⟨v2, rfl, ho, hb2⟩
    obtain ⟨A, c, rfl, hrd⟩ := Rd.own ho
    have HO := Lib.hid (own_wide ho hb1.size)
    have HB2 := Lib.hid (bt hb1 hb2)
    clear ho hb1 hb2 hrd
    go_wp2_with fail
    go_loopw [8, 26] (fun o i wr => ∃ (k : Nat) (ds : List (List UInt8)), k ≤ l.length ∧ ds.length = k ∧ o = .bool true ∧ i = .int .i64 k ∧ Hid (wr.ownsRow w.heap.size 9 1 (.slice A l.length c) l.length ((ds ++ l.drop k).map strV)) ∧ Hid (Below w.heap.size w wr) ∧ Hid (SP = (turnsL (l.drop k)).map (ds ++ ·))) (fun _ i _ => l.length - (intOf i).toNat)
    case atStart => exact ⟨0, [], by omega, rfl, rfl, rfl, HO, HB2, by show _ = _; rw [HSP.out]; simp⟩
    case round =>
      obtain ⟨k, ds, hk, hdk, rfl, rfl, HR, HB, HV⟩ := hrel
      by_cases hlt : k < l.length
      · obtain ⟨g, cap, hsv, hg0, hgl, hcl, hcm⟩ := own_shape HR.out (by omega)
        cases hsv
        have hc := HR.out.cellAt k (by omega)
        rw [get_done ds l k hlt hdk] at hc
        have hst := turns_at l k hlt ds
        rw [← HV.out] at hst
        have hps : (mkB l[k]).size ≤ p.size := by rw [mkB_size]; exact HSM.out _ (List.getElem_mem hlt)
        have HT := Lib.hid (fun w => turn_any (mkB l[k]) w (by omega))
        rw [mkB_data] at HT
        cases ht : turnL l[k] with
        | none =>
          rw [ht] at HT hst
          have HS := Lib.hid hst
          clear ht hst
          generalize mkB l[k] = q at *
          go_wp2_with fail
          refine (HT.out _).mono ?_
          rintro e w3 ⟨rfl, hb3⟩
          have hfz := (own_below HR.out hb3).frozenAt k
          have hc3 := (hb3.cell (p := ⟨g, k, none⟩) hgl).trans hc
          have HB4 : Hid (Below w.heap.size w w3) := bt HB.out hb3
          clear hb3
          go_wp2_with fail
          go_ret2
          have e := HS.out
          rw [e]
          exact ⟨_, rfl, World.ownsRow_nil _ _ _ _, HB4.out.setCell (p := ⟨g, k, none⟩) hg0 _⟩
        | some t =>
          rw [ht] at HT hst
          have HS := Lib.hid hst
          clear ht hst
          generalize mkB l[k] = q at *
          go_wp2_with fail
          refine (HT.out _).mono ?_
          rintro e w3 ⟨rfl, hb3⟩
          have hO3 := own_below HR.out hb3
          have hfz := hO3.frozenAt k
          have hc3 := (hb3.cell (p := ⟨g, k, none⟩) hgl).trans hc
          have HB4 : Hid (Below w.heap.size w w3) := bt HB.out hb3
          have HO4 := Lib.hid (hO3.stored k (strV t))
          clear hb3 hO3
          go_wp2_with fail
          refine ⟨⟨k + 1, ds ++ [t], by omega, by simp [hdk], rfl, by go_num, ?_, HB4.out.setCell (p := ⟨g, k, none⟩) hg0 _, HS⟩, by simp [intOf]; omega⟩
          have h4 := HO4.out.1
          rw [set_done ds l k hlt hdk t] at h4
          exact h4
      · go_wp2_with fail
        go_ret2
        have hk2 : k = l.length := by omega
        have e1 := HV.out
        have e2 := HR.out
        rw [List.drop_of_length_le (by omega)] at e1 e2
        simp [turnsL] at e1 e2
        subst e1
        have hdl : ds.length = l.length := by omega
        simp only [Option.getD_some, Option.isSome_some]
        refine ⟨_, rfl, ?_, HB.out⟩
        rw [hdl]
        exact e2

end Go.Proofs.Ytghlmdpkchepgaa
