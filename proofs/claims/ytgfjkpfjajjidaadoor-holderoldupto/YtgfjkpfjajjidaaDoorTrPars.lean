/- What the names of a pattern stand for. The contract of trie.params. -/
import Derived.Test.YtgfjkpfjajjidaaDoorTrFind
import Derived.Test.YtgfjkpfjajjidaaDoorPtJoin
import Derived.Test.YtgfjkpfjajjidaaDoorTbIdx
namespace Go.Proofs.YtgfjkpfjajjidaaDoor
open Go.RowKit Pl Go.Shelf
attribute [local go_sem ↓] Go.wp_at_zero Go.wp_at_succ

theorem joinS_eq : ∀ xs : List Seg, joinS xs = joinW 47 xs
  | [] => rfl
  | [x] => by simp [joinS, joinW]
  | x :: y :: l => by
    have := joinS_eq (y :: l)
    rw [joinS, this]
    simp [joinW]

set_option maxRecDepth 100000 in
set_option maxHeartbeats 2000000 in
/-- path.Join of a slice that lies in a block, from a place in it on. -/
theorem joinr_any (xs : List Seg) (b o c n : Nat) (w : World) (hr : Rd w w.heap.size 1 (some ⟨b, o, none⟩) xs.length (xs.map strV)) (hlt : n < xs.length) (hc : xs.length ≤ c) (hn : xs.length ≤ 1000) (hs : ∀ x ∈ xs, x.length ≤ 2000000) :
    Calls Tryd.prog 37 #[.slice (some ⟨b, o, none⟩) xs.length c, .int .i64 n] w fun e w' => e = .returned (.string (mkB (joinS (xs.drop n)))) ∧ Below w.heap.size w w' := by
  have n0 : ¬ (n : Int) < 0 := by omega
  obtain ⟨a, ea, hab, hcs⟩ := hr.2 (by omega)
  cases ea
  have HJ := Lib.hid (joins_any (xs.drop n) b (o + n) (c - n) w (fun j h => by
      rw [List.length_drop] at h
      have := hcs (n + j) (strV xs[n + j]) (by simp [show n + j < xs.length by omega])
      have e : (⟨b, o, none⟩ : Addr).add (n + j) = ⟨b, o + n + j, none⟩ := by
        unfold Addr.add
        by_cases h0 : n + j = 0
        · rw [if_pos h0]
          have h1 : n = 0 := by omega
          have h2 : j = 0 := by omega
          subst h1 h2; rfl
        · rw [if_neg h0, Nat.add_assoc]
      rw [e, strV_mk] at this
      simpa using this) hab (by simp; omega) (by simp; omega) (fun x hx => hs x (List.mem_of_mem_drop hx)))
  rw [List.length_drop, ← joinS_eq] at HJ
  clear hs hr hcs hab
  generalize joinS (xs.drop n) = Z at *
  have n1 : ¬ (xs.length : Int) < (n : Int) := by omega
  have n2 : ¬ c = n := by omega
  go_enter Tryd.func37, Tryd.ntmps37
  go_wp2_with fail
  have e : min (n : Int) (xs.length : Int) = (n : Int) := by omega
  simp only [e, Int.toNat_natCast]
  trace_state
  refine HJ.out.mono ?_
  rintro e w1 ⟨rfl, hb⟩
  go_wp2_with fail
  go_ret
  exact ⟨rfl, hb⟩
end Go.Proofs.YtgfjkpfjajjidaaDoor

namespace Go.Proofs.YtgfjkpfjajjidaaDoor
open Go.RowKit Pl Go.Shelf
attribute [local go_sem ↓] Go.wp_at_zero Go.wp_at_succ

def parC (s : Seg) (r : List Seg) : List PL := if kd s = 1 then [(s.drop 1, r.headD [])] else if kd s = 2 then [(s.drop 1, joinS r)] else []
def parL : List Seg → List Seg → List PL
  | [], _ => []
  | _ :: _, [] => []
  | p :: ps, x :: xs => parC p (x :: xs) ++ parL ps xs
theorem par_snoc : ∀ (ps xs : List Seg) (k : Nat) (h : k < ps.length) (_ : k < xs.length), parL (ps.take (k + 1)) xs = parL (ps.take k) xs ++ parC ps[k] (xs.drop k)
  | [], _, k, h, _ => absurd h (by simp)
  | _ :: _, [], k, _, h => absurd h (by simp)
  | p :: ps, x :: xs, 0, _, _ => by cases ps <;> simp [parL]
  | p :: ps, x :: xs, k + 1, h, h2 => by
    have := par_snoc ps xs k (by simpa using h) (by simpa using h2)
    rw [List.take_succ_cons, List.take_succ_cons, parL, parL, this, List.append_assoc]
    rfl
theorem par_len : ∀ (ps xs : List Seg), (parL ps xs).length ≤ ps.length
  | [], _ => Nat.le_refl _
  | _ :: _, [] => Nat.zero_le _
  | p :: ps, x :: xs => by
    have := par_len ps xs
    have h1 : (parC p (x :: xs)).length ≤ 1 := by unfold parC; split; simp; split <;> simp
    rw [parL, List.length_append, List.length_cons]
    omega
theorem par_params : ∀ (ps xs : List Seg), okP ps = true → hasL ps xs = true → parL ps xs = paramsL ps xs
  | [], _, _, _ => rfl
  | _ :: _, [], _, h => by cases h
  | p :: ps, x :: xs, ho, hh => by
    simp only [okP, Bool.and_eq_true, Bool.or_eq_true, decide_eq_true_eq] at ho
    rw [parL, paramsL]
    rcases kd_cases p with k | k | k
    · simp [hasL, k] at hh
      simp [parC, k, par_params ps xs ho.2 hh.2]
    · simp [hasL, k] at hh
      simp [parC, k, par_params ps xs ho.2 hh.2]
    · have : ps = [] := by
        rcases ho.1.2 with h1 | h1
        · exact absurd k h1
        · exact h1
      subst this
      simp [parC, k, parL]
theorem has_len : ∀ (ps xs : List Seg), okP ps = true → hasL ps xs = true → ps.length ≤ xs.length
  | [], _, _, _ => Nat.zero_le _
  | _ :: _, [], _, h => by cases h
  | p :: ps, x :: xs, ho, hh => by
    simp only [okP, Bool.and_eq_true, Bool.or_eq_true, decide_eq_true_eq] at ho
    rcases kd_cases p with k | k | k
    · simp [hasL, k] at hh
      have := has_len ps xs ho.2 hh.2
      simpa using this
    · simp [hasL, k] at hh
      have := has_len ps xs ho.2 hh.2
      simpa using this
    · have : ps = [] := by
        rcases ho.1.2 with h1 | h1
        · exact absurd k h1
        · exact h1
      subst this
      simp

theorem add_lit2 (b o k : Nat) : (⟨b, o, none⟩ : Addr).add k = ⟨b, o + k, none⟩ := by
  unfold Addr.add
  split
  · rename_i h; rw [h]; rfl
  · rfl
theorem Tryd.info38 : (Tryd.prog.info? 38).map (fun i => (i.zero, i.size, i.bytes)) = some (some (.agg #[.string ⟨#[]⟩, .string ⟨#[]⟩]), 2, 32) := by kernel_rfl
theorem pl_one (a b : ByteArray) : ∀ u ∈ [Value.string a, .string b], u.oneCell' = true := by
  intro u hu
  simp only [List.mem_cons, List.not_mem_nil, or_false] at hu
  rcases hu with rfl | rfl <;> rfl
theorem pl_new (w : World) (a b : ByteArray) : ∀ j u, [Value.string a, .string b][j]? = some u → (w.alloc (.cells #[.string a, .string b] 38)).cell? ((⟨w.heap.size, 0, none⟩ : Addr).add j) = some u := fun j u hu => by
  rw [add_zero_own]
  exact (new_cell4 w #[.string a, .string b] 38 j).trans (by simpa using hu)

set_option maxRecDepth 100000 in
set_option maxHeartbeats 4000000 in
theorem params_any (ps : List Seg) (A : Option Addr) (c : Nat) (xs : List Seg) (b o m : Nat) (w : World) (hs : Rd w w.heap.size 1 A ps.length (ps.map strV)) (hx : Rd w w.heap.size 1 (some ⟨b, o, none⟩) xs.length (xs.map strV)) (hl : ps.length ≤ xs.length) (hm : xs.length ≤ m) (hn : xs.length ≤ 1000) (hz : ∀ x ∈ xs, x.length ≤ 2000000) :
    Calls Tryd.prog 22 #[.slice A ps.length c, .slice (some ⟨b, o, none⟩) xs.length m] w fun e w' => ∃ v, e = .returned v ∧ w'.ownsRow w.heap.size 38 2 v (parL ps xs).length (plCells (parL ps xs)) ∧ Below w.heap.size w w' := by
  obtain ⟨i0, hi, hz0, hz1, hz2⟩ := info_parts Tryd.info38
  have HZ := Lib.hid (And.intro hz0 (And.intro hz1 hz2))
  clear hz0 hz1 hz2
  have HS := Lib.hid hs
  have HX := Lib.hid hx
  have HK := Lib.hid (fun s w => kind_any s w)
  have HJ := Lib.hid (fun k w hr h => joinr_any xs b o m k w hr h hm hn hz)
  have HPS := Lib.hid (fun k h h2 => par_snoc ps xs k h h2)
  have HPL := Lib.hid (fun k => par_len (ps.take k) xs)
  clear hs hx hz
  go_enter Tryd.func22, Tryd.ntmps22
  go_wp2_with fail
  go_loopw [5, 10] (fun ov i wr => ∃ k : Nat, k ≤ ps.length ∧ i = .int .i64 k ∧ Hid (wr.ownsRow w.heap.size 38 2 ov (parL (ps.take k) xs).length (plCells (parL (ps.take k) xs))) ∧ Hid (Below w.heap.size w wr)) (fun _ i _ => ps.length - (intOf i).toNat)
  case atStart => exact ⟨0, by omega, rfl, World.ownsRow_nil _ _ _ _, Below.refl _ _⟩
  case round =>
    obtain ⟨k, hk, rfl, HO, HB⟩ := hrel
    by_cases hlt : k < ps.length
    · obtain ⟨a, rfl, hab, ka⟩ := (HS.out.below HB.out (Nat.le_refl _)).at hlt (strV ps[k]) (by simp [hlt])
      rw [strV_mk] at ka
      have hkx : k < xs.length := by omega
      have kx : wr.cell? ⟨b, o + k, none⟩ = some (.string (mkB xs[k])) := by
        obtain ⟨a2, e2, _, h2⟩ := (HX.out.below HB.out (Nat.le_refl _)).2 (by omega)
        cases e2
        have := h2 k (strV xs[k]) (by simp [hkx])
        rwa [add_lit2] at this
      have hsn := HPS.out k hlt hkx
      have hkk := HK.out (mkB ps[k])
      rw [mkB_data, ← kd_kind] at hkk
      have hLn : (parL (ps.take k) xs).length ≤ 1000 := by
        have := HPL.out k
        rw [List.length_take] at this
        omega
      have hpc : parC ps[k] (xs.drop k) = if kd ps[k] = 1 then [(ps[k].drop 1, xs[k])] else if kd ps[k] = 2 then [(ps[k].drop 1, joinS (xs.drop k))] else [] := by
        rw [parC, List.drop_eq_getElem_cons hkx]; rfl
      rw [hpc] at hsn
      have hcs := kd_cases ps[k]
      have hsz : kd ps[k] ≠ 0 → (1 : Int) ≤ ((mkB ps[k]).size : Int) := fun h => by
        rw [mkB_size]
        have : ps[k] ≠ [] := fun e => h (by rw [e]; rfl)
        have := List.length_pos_iff.2 this
        omega
      have htl : (mkB ps[k]).extract 1 (mkB ps[k]).size = mkB (ps[k].drop 1) := bytes_ext (by rw [mkB_data]; exact (tl_data _).trans (by rw [mkB_data]))
      have HHJ := Lib.hid (fun w hr => HJ.out k w hr hkx)
      clear hpc
      have hwk : kd ps[k] = kd ps[k] := rfl
      generalize kd ps[k] = kv at hkk hsn hcs hsz
      generalize ps[k].drop 1 = nm at *
      generalize hP : parL (ps.take k) xs = P at *
      generalize hP2 : parL (ps.take (k + 1)) xs = P2 at *
      have HP2 := Lib.hid hP2
      clear hP hP2 hwk
      have HKK := Lib.hid hkk
      generalize mkB ps[k] = sb at *
      generalize joinS (xs.drop k) = jn at *
      generalize xs[k] = xk at *
      clear hkk
      have HSN := Lib.hid hsn
      clear hsn
      have hbx : b < w.heap.size := (HX.out.2 (by omega)).elim fun a2 h2 => by obtain ⟨e2, h3, _⟩ := h2; cases e2; exact h3
      have HBX := Lib.hid (fun (C : Nat) wx (hC : w.heap.size ≤ C) (h : Below C wr wx) => (h.cell (p := ⟨b, o + k, none⟩) (Nat.lt_of_lt_of_le hbx hC)).trans kx)
      rcases hcs with rfl | rfl | rfl
      · have HE : Hid (P2 = P) := by show _ = _; rw [HSN.out]; simp
        clear hsz htl
        go_wp2_with fail
        refine (HKK.out _).mono ?_
        rintro e w2 ⟨rfl, rfl⟩
        go_wp2_with fail
        go_roundw
        case rel => exact ⟨k + 1, by omega, by go_num, by show World.ownsRow _ _ _ _ _ _ _; rw [HP2.out, HE.out]; exact HO.out, HB⟩
        case measure => simp [intOf]; omega
      · have HE : Hid (P2 = P ++ [(nm, xk)]) := by show _ = _; rw [HSN.out]; simp
        have hs1 := hsz (by decide)
        clear hsz
        have HTL := Lib.hid htl
        have k0 : (0 : Int) ≤ (k : Int) := by omega
        have k1 : (k : Int) < (xs.length : Int) := by omega
        have H63 : Hid (P.length + 1 ≤ maxLen) := by show _ ≤ _; unfold maxLen; omega
        have HBY : Hid ((P.length + 1) * 32 ≤ 140737488355328) := by show _ ≤ _; omega
        have HPN := Lib.hid (fun (wx : World) => pl_new wx (mkB nm) (mkB xk))
        have HBS : Hid (w.heap.size ≤ wr.heap.size) := HB.out.size
        rw [← htl] at HPN
        clear htl hLn
        obtain ⟨xkb, hxk⟩ : ∃ xkb, mkB xk = xkb := ⟨_, rfl⟩
        have HXK := Lib.hid hxk
        rw [hxk] at HPN kx HBX
        clear hxk
        go_wp2_with fail
        refine (HKK.out _).mono ?_
        rintro e w2 ⟨rfl, rfl⟩
        go_wp2_with fail
        have hO2 := own_below HO.out ((Below.refl wr.heap.size wr).drew.alloc (Nat.le_refl _) (.cells #[.string (sb.extract 1 sb.size), .string xkb] 38))
        go_region_held3 (fun W => W.cell? ⟨b, o + k, none⟩ = some (.string xkb)) (first | (exact HBX.out _ _ (Nat.le_refl _) hb6) | (exact HBX.out _ _ HBS.out ((Below.refl wr.heap.size wr).drew.alloc (Nat.le_refl _) _)) | (exact HBX.out _ _ HBS.out (Below.refl wr.heap.size _).drew)) ((first
          | (refine step_append_lies _ (by rfl) (.tmp 19) (.tmp 27) 32 (by rfl) w.heap.size 38 i0 (.agg #[.string ⟨#[]⟩, .string ⟨#[]⟩]) 2 32 Tryd.underlying32 hi HZ.out.1 HZ.out.2.1 HZ.out.2.2 rfl (by decide) u5 P.length (plCells P) (by rfl) hO2 ⟨wr.heap.size, 0, none⟩ 1 1 [.string (sb.extract 1 sb.size), .string xkb] (by rfl) rfl (HPN.out wr.drew) (pl_one _ _) (by decide) H63.out HBY.out (by simp; have := HBS.out; omega) _ rfl ?_
             intro g6 c6 w6 hown6 hgr6 hat6 hlt6
             have hb6 : Below w.heap.size wr w6 := ((Below.refl wr.heap.size wr).drew.alloc (Nat.le_refl _) (.cells #[.string (sb.extract 1 sb.size), .string xkb] 38)).mono HBS.out |>.trans ((Below.refl _ _).grown hgr6 (by simp; have := HBS.out; omega) (fun k hk => (hO2.lt k hk).1))
             clear hat6 hgr6)))
        have HB6 : Hid (Below w.heap.size w w6) := HB.out.trans hb6
        have HO6 : Hid (w6.ownsRow w.heap.size 38 2 (.slice (some ⟨g6, 0, none⟩) (P.length + 1) c6) (parL (ps.take (k + 1)) xs).length (plCells (parL (ps.take (k + 1)) xs))) := by
          show World.ownsRow _ _ _ _ _ _ _
          rw [HP2.out, HE.out, pl_app, List.length_append]
          have : plCells [(nm, xk)] = [.string (sb.extract 1 sb.size), .string xkb] := by rw [HTL.out, ← HXK.out]; rfl
          rw [this]; exact hown6
        clear hown6 hO2
        go_wp2_with fail
        go_roundw
        case rel => exact ⟨k + 1, by omega, by go_num, HO6, HB6⟩
        case measure => simp [intOf]; omega
      · have HE : Hid (P2 = P ++ [(nm, jn)]) := by show _ = _; rw [HSN.out]; simp
        have hs1 := hsz (by decide)
        clear hsz
        have HTL := Lib.hid htl
        have H63 : Hid (P.length + 1 ≤ maxLen) := by show _ ≤ _; unfold maxLen; omega
        have HBY : Hid ((P.length + 1) * 32 ≤ 140737488355328) := by show _ ≤ _; omega
        have HPN := Lib.hid (fun (wx : World) => pl_new wx (mkB nm) (mkB jn))
        have HBS : Hid (w.heap.size ≤ wr.heap.size) := HB.out.size
        have HJN := Lib.hid (HHJ.out wr.drew ((HX.out.below HB.out.drew (Nat.le_refl _)).wide HB.out.drew.size))
        rw [← htl] at HPN
        have HJB : Hid (mkB jn = mkB jn) := rfl
        clear htl hLn
        obtain ⟨jb, hjb⟩ : ∃ jb, mkB jn = jb := ⟨_, rfl⟩
        have HJB2 := Lib.hid hjb
        rw [hjb] at HPN HJN
        clear hjb HJB
        go_wp2_with fail
        refine (HKK.out _).mono ?_
        rintro e w2 ⟨rfl, rfl⟩
        go_wp2_with fail
        go_region_held3 (fun _ => True) (trivial) ((first
          | (have hA5 := ((Below.refl wr.heap.size wr).drew.trans hb5).alloc ((Below.refl wr.heap.size wr).drew.trans hb5).size (.cells #[.string (sb.extract 1 sb.size), .string jb] 38)
             have hO2 := own_below HO.out hA5
             refine step_append_lies _ (by rfl) (.tmp 31) (.tmp 38) 32 (by rfl) w.heap.size 38 i0 (.agg #[.string ⟨#[]⟩, .string ⟨#[]⟩]) 2 32 Tryd.underlying32 hi HZ.out.1 HZ.out.2.1 HZ.out.2.2 rfl (by decide) u5 P.length (plCells P) (by rfl) hO2 ⟨w5.heap.size, 0, none⟩ 1 1 [.string (sb.extract 1 sb.size), .string jb] (by rfl) rfl (HPN.out w5) (pl_one _ _) (by decide) H63.out HBY.out (Nat.le_trans HBS.out hA5.size) _ rfl ?_
             intro g6 c6 w6 hown6 hgr6 hat6 hlt6
             clear hat6)
          | (go_at_call 37; refine HJN.out.mono ?_; rintro e w5 ⟨rfl, hb5⟩)))
        have HB6 : Hid (Below w.heap.size w w6) := HB.out.trans (((hA5.mono HBS.out).trans ((Below.refl _ _).grown hgr6 (Nat.le_trans HBS.out hA5.size) (fun k hk => (hO2.lt k hk).1))))
        have HO6 : Hid (w6.ownsRow w.heap.size 38 2 (.slice (some ⟨g6, 0, none⟩) (P.length + 1) c6) (parL (ps.take (k + 1)) xs).length (plCells (parL (ps.take (k + 1)) xs))) := by
          show World.ownsRow _ _ _ _ _ _ _
          rw [HP2.out, HE.out, pl_app, List.length_append]
          have : plCells [(nm, jn)] = [.string (sb.extract 1 sb.size), .string jb] := by rw [HTL.out, ← HJB2.out]; rfl
          rw [this]; exact hown6
        clear hown6 hgr6 hO2 hA5 hb5
        go_wp2_with fail
        go_roundw
        case rel => exact ⟨k + 1, by omega, by go_num, HO6, HB6⟩
        case measure => simp [intOf]; omega
    · have HE : Hid (ps.take k = ps) := List.take_of_length_le (by omega)
      rw [HE.out] at HO
      obtain ⟨oa, oc, e2, _⟩ := Rd.own HO.out
      subst e2
      go_wp2_with fail
      go_ret
      exact ⟨_, rfl, HO.out, HB.out⟩
end Go.Proofs.YtgfjkpfjajjidaaDoor
