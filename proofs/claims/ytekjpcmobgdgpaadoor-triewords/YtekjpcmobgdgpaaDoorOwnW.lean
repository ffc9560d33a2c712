/- The walk of TrieOwn. -/
import Derived.Test.YtekjpcmobgdgpaaDoorMatchesW
namespace Go.Proofs.YtekjpcmobgdgpaaDoor
open Go.RowKit Pl

/-- What stands for a segment of a pattern. -/
def wrapS (s : Seg) : Seg := if kd s = 0 then s else 40 :: (s ++ [41])
def ownL (ws : List Seg) : List Seg := (ws.filter fun s => decide (s ≠ [])).map wrapS
theorem own_snoc (ws : List Seg) (x : Seg) : ownL (ws ++ [x]) = ownL ws ++ (if x = [] then [] else [wrapS x]) := by
  unfold ownL
  rw [List.filter_append, List.map_append]
  by_cases h : x = [] <;> simp [h]
theorem own_few (ws : List Seg) : (ownL ws).length ≤ ws.length := by
  unfold ownL
  rw [List.length_map]
  exact List.length_filter_le _ _
theorem wrap_len (s : Seg) : (wrapS s).length ≤ s.length + 2 := by
  unfold wrapS
  split
  · omega
  · simp
theorem own_has : ∀ q : List Seg, okP q = true → hasL q (q.map wrapS) = true
  | [], _ => rfl
  | p :: ps, h => by
    simp only [okP, Bool.and_eq_true, decide_eq_true_eq] at h
    have ih := own_has ps h.2
    rw [List.map_cons, hasL]
    rcases kd_cases p with k | k | k
    · rw [if_neg (by omega), if_neg (by omega), ih, Bool.and_true, decide_eq_true_eq]
      unfold wrapS; rw [if_pos k]
    · rw [if_neg (by omega), if_pos k, ih, Bool.and_true, decide_eq_true_eq]
      unfold wrapS; rw [if_neg (by omega)]; simp
    · rw [if_pos k]
theorem own_cut {s : List UInt8} {q : List Seg} (h : patL s = some q) (hne : ∀ x ∈ cutL s, x ≠ []) : ownL (wordsB 47 (s.drop 1)) = (cutL s).map wrapS := by
  unfold cutL at hne ⊢
  by_cases h47 : s = [47]
  · rw [if_pos h47, h47]; rfl
  · rw [if_neg h47] at hne ⊢
    unfold ownL
    rw [List.filter_eq_self.2 (fun x hx => by simpa using hne x hx)]
theorem own_and16 (n : Int) : bits .and .i64 n 65535 = n % 65536 := by
  have h : (BitVec.ofInt 64 65535).toNat = 2 ^ 16 - 1 := by decide
  have key : (BitVec.ofInt 64 n &&& BitVec.ofInt 64 65535).toNat = (n % ((2 ^ 64 : Nat) : Int)).toNat % 2 ^ 16 := by
    rw [BitVec.toNat_and, BitVec.toNat_ofInt, h, Nat.and_two_pow_sub_one_eq_mod]
  show IntKind.i64.wrap ((BitVec.ofInt 64 n &&& BitVec.ofInt 64 65535).toNat : Nat) = n % 65536
  rw [key, IntKind.wrap_i64]
  omega
/-- A route has its own pattern. -/
theorem own_ok {L : List Rt} (h : Law L) {r : Rt} (hr : r ∈ L) : (matchL r.m (ownL (wordsB 47 (r.p.drop 1))) L).ok = true := by
  obtain ⟨hp, _⟩ := h.pat r hr
  obtain ⟨q, hq⟩ := Option.isSome_iff_exists.1 hp
  have hne := (h.cut hr).2.2.2
  rw [own_cut hq hne]
  have hb := best_is cutL r.m ((cutL r.p).map wrapS) L h.good h.apart
  have hf : fitR cutL r.m ((cutL r.p).map wrapS) r = true := by
    unfold fitR
    rw [own_has _ (h.good r hr), decide_eq_true rfl]; rfl
  unfold matchL
  cases hbb : bestL cutL r.m ((cutL r.p).map wrapS) L with
  | some s => rfl
  | none =>
    rw [hbb] at hb
    have := hb r hr
    rw [hf] at this; cases this
theorem own_short {L : List Rt} (h : Law L) {r : Rt} (hr : r ∈ L) : (ownL (wordsB 47 (r.p.drop 1))).length ≤ 8 ∧ ∀ x ∈ ownL (wordsB 47 (r.p.drop 1)), x.length ≤ 1000000 := by
  obtain ⟨hp, hl⟩ := h.pat r hr
  obtain ⟨q, hq⟩ := Option.isSome_iff_exists.1 hp
  obtain ⟨_, _, h8, hne⟩ := h.cut hr
  refine ⟨by rw [own_cut hq hne, List.length_map]; exact h8, fun x hx => ?_⟩
  unfold ownL at hx
  obtain ⟨y, hy, rfl⟩ := List.mem_map.1 hx
  have h1 := wordsGo_small 47 (r.p.drop 1) [] y (List.mem_filter.1 hy).1
  have h2 := wrap_len y
  simp at h1
  omega

set_option maxRecDepth 100000 in
set_option maxHeartbeats 8000000 in
theorem own_walk0 (l : List Rt) (A : Option Addr) (c : Nat) (n : Int) (w : World) (hr : Rd w w.heap.size 3 A l.length (rtCells l)) (hz : ∀ r ∈ l, r.m.length ≤ 140737488355328 ∧ r.p.length ≤ 140737488355328 ∧ r.h.length ≤ 140737488355328) (hw : HB w) (h60 : l.length ≤ 60) :
    Calls Tryd.prog 5 #[.slice A l.length c, .int .i64 n] w fun e w' => e = .returned (.bool true) ∧ Below w.heap.size w w' := by
  have HW := Lib.hid hw
  have HF := Lib.hid (fit_any w hw)
  have HSM := Lib.hid (fun wx (h : Below w.heap.size w wx) => some_any l A c wx ((hr.below h (Nat.le_refl _)).wide h.size) (hw.below h) (by omega) (fun r hr => by have := hz r hr; omega))
  have hlaw := law_of l
  generalize someL l = L at *
  have HLW := Lib.hid hlaw
  have HL24 := hlaw.len
  clear hr hw hlaw hz
  by_cases h0 : L.length = 0
  · rw [h0] at HSM
    go_enter Tryd.func5, Tryd.ntmps5
    go_wp2_with fail
    refine HF.out.mono ?_
    rintro e w1 ⟨rfl, hb1⟩
    have HB1 := Lib.hid hb1
    clear hb1
    go_wp2_with fail
    refine (HSM.out _ HB1.out).mono ?_
    rintro e w3 ⟨sv, rfl, hown3, hb3⟩
    obtain ⟨oa, oc, rfl, hr3⟩ := Rd.own hown3
    have HB3 := Lib.hid (bt HB1.out hb3)
    clear hown3 hb3 hr3
    go_wp2_with fail
    go_ret
    exact ⟨rfl, HB3.out⟩
  · obtain ⟨i0, hi, hz0, hz1, hz2⟩ := info_parts Tryd.info9
    have HZ := Lib.hid (And.intro hz0 (And.intro hz1 hz2))
    clear hz0 hz1 hz2
    have hb16 := own_and16 n
    obtain ⟨at_, hat, hatl⟩ : ∃ k : Nat, Int.tmod (n % 65536) (L.length : Int) = (k : Int) ∧ k < L.length := by
      have h1 := Int.emod_nonneg n (b := 65536) (by omega)
      have h2 : Int.tmod (n % 65536) (L.length : Int) = (n % 65536) % (L.length : Int) := Int.tmod_eq_emod_of_nonneg h1
      have h3 := Int.emod_nonneg (n % 65536) (b := (L.length : Int)) (by omega)
      have h4 := Int.emod_lt_of_pos (n % 65536) (b := (L.length : Int)) (by omega)
      exact ⟨((n % 65536) % (L.length : Int)).toNat, by rw [h2]; omega, by omega⟩
    have hL0 : ((L.length : Int) == 0) = false := by rw [beq_eq_false_iff_ne]; omega
    clear h0
    go_enter Tryd.func5, Tryd.ntmps5
    go_wp2_with fail
    refine HF.out.mono ?_
    rintro e w1 ⟨rfl, hb1⟩
    have HB1 := Lib.hid hb1
    clear hb1
    go_wp2_with fail
    refine (HSM.out _ HB1.out).mono ?_
    rintro e w3 ⟨sv, rfl, hown3, hb3⟩
    obtain ⟨oa, oc, rfl, hr3⟩ := Rd.own hown3
    have HB3 := Lib.hid (bt HB1.out hb3)
    have HR3 := Lib.hid hr3
    clear hown3 hb3
    obtain ⟨a, rfl, hab, k0, k1, k2⟩ := rt_in hr3 rfl at_ hatl
    clear hr3
    obtain ⟨hp0, hp1, hp8, hpn⟩ := HLW.out.cut (List.getElem_mem hatl)
    have HOK := Lib.hid (own_ok HLW.out (List.getElem_mem hatl))
    have HSH := Lib.hid (own_short HLW.out (List.getElem_mem hatl))
    generalize L[at_] = r at *
    have hpd : (mkB r.p).data.toList = r.p := mkB_data _
    have hps : (mkB r.p).size = r.p.length := mkB_size _
    generalize mkB r.p = s at *
    rw [← hpd] at HOK HSH
    have hs0 : 0 < s.size := by omega
    have hs1 : s.size ≤ 10000 := by omega
    have HG := Lib.hid (ginv_start s)
    have HMD : Hid ((mkB r.m).data.toList = r.m) := mkB_data _
    clear hpd hps hp0 hp1 hp8 hpn
    generalize hWW : wordsB 47 (s.data.toList.drop 1) = WW at *
    clear hWW
    generalize hmb : mkB r.m = mb at *
    generalize r.m = rm at *
    generalize mkB r.h = hb at *
    have HA5 := Lib.hid ((Below.refl w3.heap.size w3).alloc (Nat.le_refl _) (.cells #[.string mb, .string s, .string hb] 41))
    have HS5 : Hid ((w3.alloc (.cells #[.string mb, .string s, .string hb] 41)).heap.size = w3.heap.size + 1) := by show _ = _; simp
    have e0 := new_cell4 w3 #[.string mb, .string s, .string hb] 41 0
    have e1 := new_cell4 w3 #[.string mb, .string s, .string hb] 41 1
    simp only [List.getElem?_toArray, List.getElem?_cons_succ, List.getElem?_cons_zero] at e0 e1
    have HE0 := Lib.hid e0
    have HE1 := Lib.hid e1
    have HB5 := Lib.hid (bt HB3.out HA5.out)
    have HR5 := Lib.hid ((HR3.out.below HA5.out (Nat.le_refl _)).wide HA5.out.size)
    clear hmb e0 e1
    go_wp2_with fail
    generalize w3.alloc (.cells #[.string mb, .string s, .string hb] 41) = w5 at *
    generalize w3.heap.size = G at *
    have HGB : Hid (G < w5.heap.size) := by show _ < _; rw [HS5.out]; omega
    go_loopg [6, 7, 8] (s.size + 1) (fun gk v f i wr => ∃ (k p : Nat) (ws : List Seg), 1 ≤ k ∧ k ≤ s.size + 1 ∧ gk = s.size + 1 - k + 1 ∧ ws.length ≤ k ∧ i = .int .i64 k ∧ f = .int .i64 p ∧ Hid (wr.ownsRow w5.heap.size 9 1 v (ownL ws).length ((ownL ws).map strV)) ∧ Hid (Below w5.heap.size w5 wr) ∧ Hid (k ≤ s.size → p ≤ k ∧ GInv WW s ws p k) ∧ Hid (k = s.size + 1 → WW = ws))
    case atStart => exact ⟨1, 1, [], by omega, by omega, by omega, by simp, rfl, rfl, World.ownsRow_nil _ _ _ _, Below.refl _ _, fun _ => ⟨Nat.le_refl _, HG.out⟩, fun h => by omega⟩
    case round =>
      obtain ⟨k, p, ws, hk1, hk, rfl, hwl, rfl, rfl, HO, HB, HV, HE⟩ := hrel
      have kd0 := (HB.out.cell (p := ⟨G, 1, none⟩) HGB.out).trans HE1.out
      by_cases hle : k ≤ s.size
      · obtain ⟨hp, hgi⟩ := HV.out hle
        have HGI := Lib.hid hgi
        clear hgi HV HE
        have c1 : (k : Int) ≤ (s.size : Int) := by omega
        obtain ⟨tb, htb⟩ : ∃ tb : Bool, (tb = true → ∀ x, x = piece s p k → (k + 1 ≤ s.size → GInv WW s (ws ++ [x]) (k + 1) (k + 1)) ∧ (k + 1 = s.size + 1 → WW = ws ++ [x])) ∧ (tb = false → k < s.size ∧ GInv WW s ws p (k + 1)) ∧ tb = (decide (k = s.size) || (if h : k < s.size then decide (s[k] = 47) else false)) := by
          refine ⟨_, fun h x hx => ?_, fun h => ?_, rfl⟩
          · subst hx
            by_cases hks : k = s.size
            · exact ⟨fun h => by omega, fun _ => ginv_end HGI.out (by omega)⟩
            · have hlt : k < s.size := by omega
              rw [decide_eq_false hks, Bool.false_or, dif_pos hlt, decide_eq_true_eq] at h
              exact ⟨fun _ => ginv_cut HGI.out hlt h, fun h => by omega⟩
          · rw [Bool.or_eq_false_iff, decide_eq_false_iff_not] at h
            have hlt : k < s.size := by omega
            rw [dif_pos hlt, decide_eq_false_iff_not] at h
            exact ⟨hlt, ginv_skip HGI.out hp hlt h.2⟩
        obtain ⟨htt, htf, hte⟩ := htb
        have HTT : Hid (_ → _) := htt
        have HTF : Hid (_ → _) := htf
        clear htt htf
        go_upto_region 14 with fail
        go_cut [51] from 33 to 75 (fun tv wx => tv = .bool tb ∧ wx = wr)
        case first =>
          by_cases hks : k = s.size
          · have h1 : tb = true := by rw [hte, decide_eq_true hks]; rfl
            have h2 : ((k : Int) == (s.size : Int)) = true := by rw [beq_iff_eq]; omega
            clear hte hks
            subst h1
            go_wp2_with fail
            go_meet
            exact ⟨rfl, rfl⟩
          · have hlt : k < s.size := by omega
            have h1 : tb = decide (s[k] = 47) := by rw [hte, decide_eq_false hks, Bool.false_or, dif_pos hlt]
            have h2 : ((k : Int) == (s.size : Int)) = false := by rw [beq_eq_false_iff_ne]; omega
            have h3 : ((s[k].toNat : Int) == 47) = tb := by
              rw [h1, Bool.eq_iff_iff, beq_iff_eq, decide_eq_true_eq]
              exact ⟨fun h => UInt8.toNat_inj.1 (by rw [show (47 : UInt8).toNat = 47 from rfl]; omega), fun h => by rw [h]; rfl⟩
            clear hte h1
            go_wp2_with fail
            go_meet
            exact ⟨rfl, rfl⟩
        case rest =>
          obtain ⟨rfl, hwc⟩ := hcut
          have hwc2 : wr = wc := hwc.symm
          subst hwc2
          clear hte
          cases tb with
          | false =>
            obtain ⟨hlt, hgi⟩ := HTF.out (by first | rfl | trivial)
            have HGN := Lib.hid hgi
            clear hgi
            go_wp2_with fail
            go_roundg (s.size + 1 - k)
            case measure => omega
            case rel => exact ⟨k + 1, p, ws, by omega, by omega, by omega, by omega, by go_num, rfl, HO.out, HB.out, fun _ => ⟨by omega, HGN.out⟩, fun h => by omega⟩
          | true =>
            have hadv := HTT.out (by first | rfl | trivial) _ rfl
            have hext : s.extract p k = mkB (piece s p k) := Lib.extract_eq s p k
            obtain ⟨x, hx⟩ : ∃ x, piece s p k = x := ⟨_, rfl⟩
            rw [hx] at hadv hext
            have HADV := Lib.hid hadv
            have hnl := str_nil x
            rw [← hext] at hnl
            have hxd : (s.extract p k).data.toList = x := by rw [hext, mkB_data]
            have hxz : (s.extract p k).size = x.length := by rw [hext, mkB_size]
            have hxl : x.length ≤ 10000 := by
              rw [← hx, piece, List.length_take, List.length_drop]
              have := data_len s
              omega
            have HXE := Lib.hid hext
            clear hadv hx hext
            have p1 : (p : Int) ≤ (k : Int) := by omega
            have p0 : (0 : Int) ≤ (p : Int) := by omega
            have H63 : Hid ((ownL ws).length + 1 ≤ maxLen) := by have := own_few ws; show _ ≤ _; unfold maxLen; omega
            have HBY : Hid (((ownL ws).length + 1) * 16 ≤ 140737488355328) := by have := own_few ws; show _ ≤ _; omega
            go_upto_region 16 with fail
            generalize s.extract p k = sb at *
            obtain ⟨eb, heb⟩ : ∃ eb, decide (x = []) = eb := ⟨_, rfl⟩
            have HEB := Lib.hid heb
            rw [heb] at hnl
            clear heb
            go_upto_if 58 with fail
            go_cut [6] from 33 to 75 (fun v wx => Hid (wx.ownsRow w5.heap.size 9 1 v (ownL (ws ++ [x])).length ((ownL (ws ++ [x])).map strV)) ∧ Hid (Below w5.heap.size w5 wx))
            case first =>
              cases eb with
              | true =>
                have hxe : x = [] := of_decide_eq_true HEB.out
                go_wp2_with fail
                go_meet
                refine ⟨?_, HB.out⟩
                show World.ownsRow _ _ _ _ _ _ _
                rw [own_snoc, if_pos hxe, List.append_nil]; exact HO.out
              | false =>
                have hxe : x ≠ [] := of_decide_eq_false HEB.out
                have hsz : 0 < sb.size := by rw [hxz]; exact List.length_pos_iff.2 hxe
                have hsz2 : (0 : Int) < (sb.size : Int) := by omega
                have hkd := kd_hd sb hsz
                rw [hxd] at hkd
                obtain ⟨ta, hta⟩ : ∃ ta, ((sb[0].toNat : Int) == 58) = ta := ⟨_, rfl⟩
                obtain ⟨tc, htc⟩ : ∃ tc, ((sb[0].toNat : Int) == 42) = tc := ⟨_, rfl⟩
                rw [hta, htc] at hkd
                have HKD := Lib.hid hkd
                have HXE2 := Lib.hid hxe
                have hs1' : sb.size ≤ 10000 := by omega
                have k1 := add_str ⟨#[40]⟩ sb (by have : (⟨#[40]⟩ : ByteArray).size = 1 := rfl; omega)
                have k2 := add_str ((⟨#[40]⟩ : ByteArray) ++ sb) ⟨#[41]⟩ (by have : (⟨#[40]⟩ : ByteArray).size = 1 := rfl; have : (⟨#[41]⟩ : ByteArray).size = 1 := rfl; rw [ByteArray.size_append]; omega)
                have HJX : Hid (((⟨#[40]⟩ : ByteArray) ++ sb) ++ (⟨#[41]⟩ : ByteArray) = mkB (40 :: (x ++ [41]))) := by
                  apply bytes_ext
                  rw [app_data, app_data, hxd, mkB_data]; rfl
                clear hkd hxd hxz hxl hxe hs1'
                generalize ((⟨#[40]⟩ : ByteArray) ++ sb) ++ (⟨#[41]⟩ : ByteArray) = J2 at *
                generalize (⟨#[40]⟩ : ByteArray) ++ sb = J1 at *
                have hxe : Hid (x ≠ []) := HXE2
                cases ta with
                | true =>
                  have HJ : Hid (J2 = mkB (wrapS x)) := by
                    show _ = _
                    rw [HJX.out, wrapS, if_neg (by rw [HKD.out, if_pos rfl]; decide)]
                  have HO3 := Lib.hid (own_below HO.out ((Below.refl wr.heap.size wr).alloc (Nat.le_refl _) (.cells #[.string J2] 9)))
                  have HCN := Lib.hid (cell_one_new wr (.string J2) 9)
                  have HOC : Hid (∀ u ∈ [Value.string J2], u.oneCell' = true) := fun u hu => by simp at hu; subst hu; rfl
                  have HB4 := Lib.hid (HB.out.alloc HB.out.size (.cells #[.string J2] 9))
                  go_wp2_with (at_builtin; refine wpList_append_own_at _ rfl _ _ 28 rfl w5.heap.size 9 i0 (.string ⟨#[]⟩) 1 16 Tryd.underlying28 hi HZ.out.1 HZ.out.2.1 HZ.out.2.2 rfl (by decide) _ (ownL ws).length ((ownL ws).map strV) rfl HO3.out ⟨wr.heap.size, 0, none⟩ 1 1 [.string J2] rfl rfl HCN.out HOC.out H63.out HBY.out HB4.out.size ?_)
                  intro v7 w7 hown7 hgr7 _ _
                  have HB7 : Hid (Below w5.heap.size w5 w7) := HB4.out.trans ((Below.refl _ _).grown hgr7 HB4.out.size (fun k hk => (HO3.out.lt k hk).1))
                  have HO7 : Hid (w7.ownsRow w5.heap.size 9 1 v7 (ownL (ws ++ [x])).length ((ownL (ws ++ [x])).map strV)) := by
                    show World.ownsRow _ _ _ _ _ _ _
                    rw [own_snoc, if_neg hxe.out, List.length_append, List.map_append, List.map_cons, strV_mk, ← HJ.out]
                    exact hown7
                  clear hown7 hgr7
                  go_wp2_with fail
                  go_meet
                  exact ⟨HO7, HB7⟩
                | false =>
                  cases tc with
                  | true =>
                    have HJ : Hid (J2 = mkB (wrapS x)) := by
                      show _ = _
                      rw [HJX.out, wrapS, if_neg (by rw [HKD.out, if_neg (by decide), if_pos rfl]; decide)]
                    have HO3 := Lib.hid (own_below HO.out ((Below.refl wr.heap.size wr).alloc (Nat.le_refl _) (.cells #[.string J2] 9)))
                    have HCN := Lib.hid (cell_one_new wr (.string J2) 9)
                    have HOC : Hid (∀ u ∈ [Value.string J2], u.oneCell' = true) := fun u hu => by simp at hu; subst hu; rfl
                    have HB4 := Lib.hid (HB.out.alloc HB.out.size (.cells #[.string J2] 9))
                    go_wp2_with (at_builtin; refine wpList_append_own_at _ rfl _ _ 28 rfl w5.heap.size 9 i0 (.string ⟨#[]⟩) 1 16 Tryd.underlying28 hi HZ.out.1 HZ.out.2.1 HZ.out.2.2 rfl (by decide) _ (ownL ws).length ((ownL ws).map strV) rfl HO3.out ⟨wr.heap.size, 0, none⟩ 1 1 [.string J2] rfl rfl HCN.out HOC.out H63.out HBY.out HB4.out.size ?_)
                    intro v7 w7 hown7 hgr7 _ _
                    have HB7 : Hid (Below w5.heap.size w5 w7) := HB4.out.trans ((Below.refl _ _).grown hgr7 HB4.out.size (fun k hk => (HO3.out.lt k hk).1))
                    have HO7 : Hid (w7.ownsRow w5.heap.size 9 1 v7 (ownL (ws ++ [x])).length ((ownL (ws ++ [x])).map strV)) := by
                      show World.ownsRow _ _ _ _ _ _ _
                      rw [own_snoc, if_neg hxe.out, List.length_append, List.map_append, List.map_cons, strV_mk, ← HJ.out]
                      exact hown7
                    clear hown7 hgr7
                    go_wp2_with fail
                    go_meet
                    exact ⟨HO7, HB7⟩
                  | false =>
                    have HJ : Hid (sb = mkB (wrapS x)) := by
                      show _ = _
                      rw [HXE.out, wrapS, if_pos (by rw [HKD.out, if_neg (by decide), if_neg (by decide)])]
                    have HO3 := Lib.hid (own_below HO.out ((Below.refl wr.heap.size wr).alloc (Nat.le_refl _) (.cells #[.string sb] 9)))
                    have HCN := Lib.hid (cell_one_new wr (.string sb) 9)
                    have HOC : Hid (∀ u ∈ [Value.string sb], u.oneCell' = true) := fun u hu => by simp at hu; subst hu; rfl
                    have HB4 := Lib.hid (HB.out.alloc HB.out.size (.cells #[.string sb] 9))
                    go_wp2_with (at_builtin; refine wpList_append_own_at _ rfl _ _ 28 rfl w5.heap.size 9 i0 (.string ⟨#[]⟩) 1 16 Tryd.underlying28 hi HZ.out.1 HZ.out.2.1 HZ.out.2.2 rfl (by decide) _ (ownL ws).length ((ownL ws).map strV) rfl HO3.out ⟨wr.heap.size, 0, none⟩ 1 1 [.string sb] rfl rfl HCN.out HOC.out H63.out HBY.out HB4.out.size ?_)
                    intro v7 w7 hown7 hgr7 _ _
                    have HB7 : Hid (Below w5.heap.size w5 w7) := HB4.out.trans ((Below.refl _ _).grown hgr7 HB4.out.size (fun k hk => (HO3.out.lt k hk).1))
                    have HO7 : Hid (w7.ownsRow w5.heap.size 9 1 v7 (ownL (ws ++ [x])).length ((ownL (ws ++ [x])).map strV)) := by
                      show World.ownsRow _ _ _ _ _ _ _
                      rw [own_snoc, if_neg hxe.out, List.length_append, List.map_append, List.map_cons, strV_mk, ← HJ.out]
                      exact hown7
                    clear hown7 hgr7
                    go_wp2_with fail
                    go_meet
                    exact ⟨HO7, HB7⟩
            case rest =>
              obtain ⟨HO8, HB8⟩ := hcut
              go_wp2_with fail
              go_roundg (s.size + 1 - k)
              case measure => omega
              case rel => exact ⟨k + 1, k + 1, ws ++ [x], by omega, by omega, by omega, by simp; omega, by go_num, by go_num, HO8.out, HB8.out, fun h => ⟨Nat.le_refl _, HADV.out.1 h⟩, fun h => HADV.out.2 h⟩
      · have hke : k = s.size + 1 := by omega
        have hws : WW = ws := HE.out hke
        rw [← hws] at HO
        obtain ⟨pa, pc, rfl, hpc, hrp⟩ := Rd.ownc HO.out
        have HBW := Lib.hid (bt HB5.out HB.out)
        obtain ⟨hx8, hxs⟩ := HSH.out
        have hrm := HMD.out
        rw [← hrm] at HOK
        generalize ownL WW = X at *
        have HPT := Lib.hid (fun wx (h : Below wr.heap.size wr wx) => Pth.of (c := pc) ((hrp.below h (Nat.le_refl _)).wide h.size) hpc (by omega) hxs)
        have HRL := Lib.hid (fun wx (h : Below wr.heap.size wr wx) => (HR5.out.below (bt HB.out h) (Nat.le_refl _)).wide (bt HB.out h).size)
        have HWI := Lib.hid (fun wx (h : Below wr.heap.size wr wx) => with_any none [] L (some a) oc wx (Tr.nil _ _) (HRL.out wx h) HLW.out.pat (by simp; omega))
        rw [List.nil_append] at HWI
        have HMT := Lib.hid (fun v wx (ht : Tr wx wx.heap.size v L) (h : Below wr.heap.size wr wx) => match_any v L mb pa X.length pc X wx ht HLW.out.good HLW.out.apart (HPT.out wx h) (by omega))
        have HRM := Lib.hid (fun wx (h : Below wr.heap.size wr wx) => rmatch_any L (some a) oc mb pa X.length pc X wx (HRL.out wx h) (HPT.out wx h) HLW.out)
        generalize matchL mb.data.toList X L = T at *
        have HTO := Lib.hid HOK.out
        have kd1 := (HB.out.cell (p := ⟨G, 0, none⟩) HGB.out).trans HE0.out
        have HGR : Hid (G < wr.heap.size) := Nat.lt_of_lt_of_le HGB.out HB.out.size
        have HKD := Lib.hid (fun wx (h : Below wr.heap.size wr wx) => (h.cell (p := ⟨G, 0, none⟩) HGR.out).trans kd1)
        clear hws hrp hxs HO HE HV hle HSH hx8 hpc hrm HOK
        generalize X.length = xn at *
        have HD0 := Lib.hid (Below.refl wr.heap.size wr).drew
        have HD1 := Lib.hid ((Below.refl wr.heap.size wr).drew.alloc (Nat.le_refl _) (.cells #[.string ⟨#[]⟩, .slice none 0 0, .slice none 0 0] 32))
        have hkn : decide ((k : Int) ≤ (s.size : Int)) = false := decide_eq_false (by omega)
        have hkm : ¬ (k : Int) ≤ (s.size : Int) := by omega
        clear hke hk hk1 hwl
        go_upto_region 22 with fail
        go_cut [11, 12] from 76 (fun mv ov wx => ∃ g, mv = .pointer (some ⟨g, 0, none⟩) ∧ ov = .bool true ∧ Hid (wx.cell? ⟨g, 0, none⟩ = some (.string (mkB T.h))) ∧ Hid (g < wx.heap.size) ∧ Hid (Below wr.heap.size wr wx))
        case first =>
          go_region_held3 (fun W => W.cell? ⟨G, 0, none⟩ = some (.string mb)) (first | (exact HKD.out _ HD0.out) | (exact HKD.out _ HD1.out) | (exact HKD.out _ hb6) | (exact HKD.out _ (hb6.alloc hb6.size _)) | (exact HKD.out _ hc7) | (exact HKD.out _ (hc7.alloc hc7.size _)) | (exact HKD.out _ (put3_below hc7 (Nat.le_refl _) _ _ _)) | (exact HKD.out _ (put3_below hc7 hb6.size _ _ _))) ((first
            | (have hkM := hkM6
               go_at_call 14; refine (HMT.out _ _ ht6 hb6).mono ?_; rintro e w7 ⟨⟨P1, n1, c1, Q1, m1, d1, he, hat1⟩, hb7⟩
               rw [HTO.out] at he
               subst he
               have hc7 := hb6.trans (hb7.mono hb6.size)
               have hkM7 := (hb7.block wr.heap.size hsM6).trans hkM6
               have r0 : w7.cell? ⟨wr.heap.size, 0, none⟩ = some (.string ⟨#[]⟩) := by rw [Lib.cell_of_heap hkM7]; rfl
               have r1 : w7.cell? ⟨wr.heap.size, 1, none⟩ = some (.slice none 0 0) := by rw [Lib.cell_of_heap hkM7]; rfl
               have r2 : w7.cell? ⟨wr.heap.size, 2, none⟩ = some (.slice none 0 0) := by rw [Lib.cell_of_heap hkM7]; rfl
               have z0 : w7.frozen? ⟨wr.heap.size, 0, none⟩ = false := Lib.frozen_of_heap hkM7 0
               have z1 : w7.frozen? ⟨wr.heap.size, 1, none⟩ = false := Lib.frozen_of_heap hkM7 1
               have z2 : w7.frozen? ⟨wr.heap.size, 2, none⟩ = false := Lib.frozen_of_heap hkM7 2)
            | (go_at_call 14; refine (HMT.out _ _ (ht6.on ((Below.refl w6.heap.size w6).alloc (Nat.le_refl _) (.cells #[.string ⟨#[]⟩, .slice none 0 0, .slice none 0 0] 32))) (hb6.alloc hb6.size _)).mono ?_; rintro e w7 ⟨⟨P1, n1, c1, Q1, m1, d1, he, hat1⟩, hb7⟩
               rw [HTO.out] at he
               subst he
               have hc7 := (hb6.alloc hb6.size (.cells #[.string ⟨#[]⟩, .slice none 0 0, .slice none 0 0] 32)).trans (hb7.mono (hb6.alloc hb6.size _).size)
               have hkM7 : w7.heap[w6.heap.size]? = some (.cells #[.string ⟨#[]⟩, .slice none 0 0, .slice none 0 0] 32 (0, 0)) := (hb7.block w6.heap.size (by simp)).trans (heap_alloc_new w6 _)
               have r0 : w7.cell? ⟨w6.heap.size, 0, none⟩ = some (.string ⟨#[]⟩) := by rw [Lib.cell_of_heap hkM7]; rfl
               have r1 : w7.cell? ⟨w6.heap.size, 1, none⟩ = some (.slice none 0 0) := by rw [Lib.cell_of_heap hkM7]; rfl
               have r2 : w7.cell? ⟨w6.heap.size, 2, none⟩ = some (.slice none 0 0) := by rw [Lib.cell_of_heap hkM7]; rfl
               have z0 : w7.frozen? ⟨w6.heap.size, 0, none⟩ = false := Lib.frozen_of_heap hkM7 0
               have z1 : w7.frozen? ⟨w6.heap.size, 1, none⟩ = false := Lib.frozen_of_heap hkM7 1
               have z2 : w7.frozen? ⟨w6.heap.size, 2, none⟩ = false := Lib.frozen_of_heap hkM7 2)
            | (go_at_call 14; refine (HMT.out _ _ ht6 hb6).mono ?_; rintro e w7 ⟨⟨P1, n1, c1, Q1, m1, d1, he, hat1⟩, hb7⟩
               rw [HTO.out] at he
               subst he
               have hc7 := hb6.trans (hb7.mono hb6.size))
            | (go_at_call 12; refine (HWI.out _ HD1.out).mono ?_; rintro e w6 ⟨g6, rfl, ht6, hb6a⟩
               have hb6 := HD1.out.trans (hb6a.mono HD1.out.size)
               have hsM6 : wr.heap.size < w6.heap.size := Nat.lt_of_lt_of_le (by simp) hb6a.size
               have hkM6 : w6.heap[wr.heap.size]? = some (.cells #[.string ⟨#[]⟩, .slice none 0 0, .slice none 0 0] 32 (0, 0)) := (hb6a.block wr.heap.size (by simp)).trans (heap_alloc_new wr.drew _))
            | (go_at_call 12; refine (HWI.out _ HD0.out).mono ?_; rintro e w6 ⟨g6, rfl, ht6, hb6a⟩; have hb6 := HD0.out.trans (hb6a.mono HD0.out.size))))
          · go_wp2_with fail
            go_meet
            refine ⟨w7.heap.size, rfl, rfl, ?_, ?_, hc7.alloc hc7.size _⟩
            · have := new_cell4 w7 #[.string (mkB T.h), .slice P1 n1 c1, .slice Q1 m1 d1] 32 0
              exact this
            · show _ < _; simp
          · go_wp2_with fail
            go_meet
            refine ⟨w6.heap.size, rfl, rfl, ?_, ?_, put3_below hc7 hb6.size _ _ _⟩
            · have h := put3_blk hkM7 (.string (mkB T.h)) (.slice P1 n1 c1) (.slice Q1 m1 d1)
              show World.cell? (put3 w7 w6.heap.size (.string (mkB T.h)) (.slice P1 n1 c1) (.slice Q1 m1 d1)) _ = _
              rw [Lib.cell_of_heap h]; rfl
            · have h := put3_blk hkM7 (.string (mkB T.h)) (.slice P1 n1 c1) (.slice Q1 m1 d1)
              exact (Array.getElem?_eq_some_iff.1 h).1
          · go_wp2_with fail
            go_meet
            refine ⟨wr.heap.size, rfl, rfl, ?_, ?_, put3_below hc7 (Nat.le_refl _) _ _ _⟩
            · have h := put3_blk hkM7 (.string (mkB T.h)) (.slice P1 n1 c1) (.slice Q1 m1 d1)
              show World.cell? (put3 w7 wr.heap.size (.string (mkB T.h)) (.slice P1 n1 c1) (.slice Q1 m1 d1)) _ = _
              rw [Lib.cell_of_heap h]; rfl
            · have h := put3_blk hkM7 (.string (mkB T.h)) (.slice P1 n1 c1) (.slice Q1 m1 d1)
              exact (Array.getElem?_eq_some_iff.1 h).1
        case rest =>
          obtain ⟨g8, rfl, rfl, HC8, HG8, HB8⟩ := hcut
          obtain ⟨w8, hw8⟩ : ∃ w8, w8 = wc := ⟨_, rfl⟩
          subst hw8
          have kd8 := HKD.out w8 HB8.out
          have HR9 := Lib.hid (HRM.out w8 HB8.out)
          clear HRM HMT HWI kd1 kd0
          go_wp2_with fail
          refine HR9.out.mono ?_
          rintro e w9 ⟨⟨P2, n2, c2, Q2, m2, d2, he, _⟩, hb9⟩
          rw [HTO.out] at he
          subst he
          generalize mkB T.h = tb at *
          have x0 := new_cell4 w9 #[.string tb, .slice P2 n2 c2, .slice Q2 m2 d2] 32 0
          simp only [List.getElem?_toArray, List.getElem?_cons_zero] at x0
          have hal := hb9.alloc hb9.size (.cells #[.string tb, .slice P2 n2 c2, .slice Q2 m2 d2] 32)
          have y0 := (hal.cell (p := ⟨g8, 0, none⟩) HG8.out).trans HC8.out
          have HBF := Lib.hid (bt HBW.out (HB8.out.trans (hal.mono HB8.out.size)))
          clear hal hb9
          go_wp2_with fail
          go_ret
          exact ⟨by simp, HBF.out⟩

theorem own_walk (l : List Rt) (A : Option Addr) (c : Nat) (n : Int) (w : World) (hr : Rd w w.heap.size 3 A l.length (rtCells l)) (_hl : l.length ≤ c) (hm : c ≤ maxLen) (hz : ∀ r ∈ l, r.m.length ≤ 140737488355328 ∧ r.p.length ≤ 140737488355328 ∧ r.h.length ≤ 140737488355328) (hw : HB w) :
    Calls Tryd.prog 5 #[.slice A l.length c, .int .i64 n] w fun e w' => e = .returned (.bool true) ∧ Below w.heap.size w w' := by
  by_cases h60 : l.length ≤ 60
  · exact own_walk0 l A c n w hr hz hw h60
  · have h1 : ¬ (l.length : Int) ≤ 60 := by omega
    have HF := Lib.hid (fit_any w hw)
    clear hr hz hw
    go_enter Tryd.func5, Tryd.ntmps5
    go_wp2_with fail
    refine HF.out.mono ?_
    rintro e w1 ⟨rfl, hb1⟩
    go_wp2_with fail
    go_ret
    exact ⟨rfl, hb1⟩
end Go.Proofs.YtekjpcmobgdgpaaDoor
