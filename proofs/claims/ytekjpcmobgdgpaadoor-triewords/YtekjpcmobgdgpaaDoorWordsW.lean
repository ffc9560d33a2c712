/- The walk of TrieWords. -/
import Derived.Test.YtekjpcmobgdgpaaDoorWordsP
import Derived.Test.YtekjpcmobgdgpaaDoorOwnW
namespace Go.Proofs.YtekjpcmobgdgpaaDoor
open Go.RowKit Pl

theorem wrt_cells (s : Seg) (J : ByteArray) (h : J = mkB (47 :: s)) : rtCells [wRt s] = [.string ⟨#[71, 69, 84]⟩, .string J, .string ⟨#[103, 101, 116]⟩] := by
  rw [h]; rfl

theorem gt_one (a m : Nat) (h : a = m + 1) : decide ((1 : Int) < (a : Int)) = decide (0 < m) := by
  rw [Bool.eq_iff_iff, decide_eq_true_eq, decide_eq_true_eq]; omega
theorem sub64 (a m : Nat) (h : a = m + 1) (hm : m ≤ 1000) : IntKind.i64.wrap ((a : Int) - 1) = (m : Int) := by rw [IntKind.wrap_i64]; omega
theorem sub64w (a m : Nat) (h : a = m + 1) (hm : m ≤ 1000) : wrap64 ((a : Int) - 1) = (m : Int) := by unfold wrap64; omega
theorem small64 (m : Nat) (h : m ≤ 1000) : wrap64 (m : Int) = (m : Int) := by unfold wrap64; omega
theorem one_match {ws : List Seg} {RL : List Rt} (hok : ∀ x, (matchL [71, 69, 84] [x] RL).ok = decide (x ∈ ws)) (hlaw : Law RL) (vb : Option Addr) (wx : World) (x : Seg) (hx : x.length ≤ 1000000) (ht : Tr wx wx.heap.size vb RL) :
    Calls Tryd.prog 14 #[.pointer vb, .string ⟨#[71, 69, 84]⟩, .slice (some ⟨wx.heap.size, 0, none⟩) 1 1] (wx.alloc (.cells #[.string (mkB x)] 9)) fun e w' => ∃ hb P n c Q m d, e = .returned (.tuple #[.agg #[.string hb, .slice P n c, .slice Q m d], .bool (decide (x ∈ ws))]) ∧ Below wx.heap.size wx w' := by
  have hal := (Below.refl wx.heap.size wx).alloc (Nat.le_refl _) (.cells #[.string (mkB x)] 9)
  have hp : Pth (wx.alloc (.cells #[.string (mkB x)] 9)) (wx.alloc (.cells #[.string (mkB x)] 9)).heap.size (some ⟨wx.heap.size, 0, none⟩) 1 1 [x] :=
    Pth.of (xs := [x]) (rd_new wx #[.string (mkB x)] 9 1 1 rfl) (by simp) (by simp) (fun y hy => by simp at hy; subst hy; exact hx)
  refine (match_any vb RL ⟨#[71, 69, 84]⟩ (some ⟨wx.heap.size, 0, none⟩) 1 1 [x] _ (ht.on hal) hlaw.good hlaw.apart hp (by have := hlaw.few; omega)).mono ?_
  rintro e w' ⟨⟨P, n, c, Q, m, d, he, _⟩, hb⟩
  have h1 := hok x
  rw [show (ByteArray.mk #[71, 69, 84]).data.toList = [71, 69, 84] from rfl, h1] at he
  exact ⟨_, P, n, c, Q, m, d, he, bt hal hb⟩

set_option maxRecDepth 100000 in
set_option maxHeartbeats 8000000 in
theorem words_walk0 (xs : List Seg) (A : Option Addr) (c : Nat) (n : Int) (w : World) (hr : Rd w w.heap.size 1 A xs.length (xs.map strV)) (hw : HB w) (h0 : 0 < xs.length) (h20 : xs.length ≤ 20) :
    Calls Tryd.prog 7 #[.slice A xs.length c, .int .i64 n] w fun e w' => e = .returned (.bool true) ∧ Below w.heap.size w w' := by
  have HW := Lib.hid hw
  have HR := Lib.hid hr
  have HF := Lib.hid (fit_any w hw)
  clear hr hw
  obtain ⟨i0, hi, hz0, hz1, hz2⟩ := info_parts Tryd.info9
  have HZ := Lib.hid (And.intro hz0 (And.intro hz1 hz2))
  clear hz0 hz1 hz2
  have g1 : ((xs.length : Int) == 0) = false := by rw [beq_eq_false_iff_ne]; omega
  have g2 : (xs.length : Int) ≤ 20 := by omega
  clear h0
  have hmm := @run_makeMap Tryd.prog
  have hb16 := own_and16 n
  have HNN := Lib.hid (Int.emod_nonneg n (b := 65536) (by omega))
  go_enter Tryd.func7, Tryd.ntmps7
  go_wp2_with fail
  refine HF.out.mono ?_
  rintro e w1 ⟨rfl, hb1⟩
  have HB1 := Lib.hid hb1
  clear hb1
  have HCN := Lib.hid (sn_new w1)
  have HBN := Lib.hid ((Below.refl w1.heap.size w1).alloc (Nat.le_refl _) (.map #[] 0))
  have HS2 : Hid ((w1.alloc (.map #[] 0)).heap.size = w1.heap.size + 1) := by show _ = _; simp
  go_wp2_with fail
  generalize w1.alloc (.map #[] 0) = w2 at *
  obtain ⟨g, hg⟩ : ∃ g, w1.heap.size = g := ⟨_, rfl⟩
  rw [hg] at HCN HBN HS2 ⊢
  have HG := Lib.hid hg
  clear hg
  go_loopg [6, 35] xs.length (fun gk v i wr => ∃ (k : Nat) (ws : List Seg), k ≤ xs.length ∧ gk = xs.length - k ∧ i = .int .i64 k ∧ ws.length ≤ k ∧ Hid (Wd ws) ∧ Hid (wr.ownsRow w2.heap.size 9 1 v ws.length (ws.map strV)) ∧ Hid (SN wr g ws) ∧ Hid (Below g w1 wr) ∧ Hid (w2.heap.size ≤ wr.heap.size))
  case atStart => exact ⟨0, [], by omega, by omega, rfl, by simp, Wd.nil, World.ownsRow_nil _ _ _ _, HCN.out, HBN.out, Nat.le_refl _⟩
  case round =>
    obtain ⟨k, ws, hk, rfl, rfl, hwl, HWD, HO, HSN, HB, HSZ⟩ := hrel
    obtain ⟨wa, wc', rfl, hwc', hrw⟩ := Rd.ownc HO.out
    have HRW := Lib.hid hrw
    clear hrw
    have HBW : Hid (Below w.heap.size w wr) := HB1.out.trans (HB.out.mono (by rw [← HG.out]; exact HB1.out.size))
    by_cases hlt : k < xs.length
    · obtain ⟨a, rfl, hab, k0⟩ := seg_in (HR.out.below HBW.out (Nat.le_refl _)) rfl k hlt
      obtain ⟨x, hx⟩ : ∃ x, xs[k] = x := ⟨_, rfl⟩
      rw [hx] at k0
      clear hx
      have hxz : (mkB x).size = x.length := mkB_size x
      have hxd : (mkB x).data.toList = x := mkB_data x
      have hlk := sn_look HSN.out (mkB x)
      rw [hxd] at hlk
      have HLK := Lib.hid (fun wx (h : SN wx g ws) => sn_look h (mkB x))
      rw [hxd] at HLK
      have hnl := str_nil x
      generalize hxb : mkB x = xb at *
      have HXB := Lib.hid hxb
      clear hxb
      by_cases h30 : x.length ≤ 30
      · have f30 : (xb.size : Int) ≤ 30 := by omega
        obtain ⟨sn, hsn⟩ : ∃ sn, decide (x ∈ ws) = sn := ⟨_, rfl⟩
        rw [hsn] at hlk
        have HSE := Lib.hid hsn
        clear hsn
        have hsum := add_str ⟨#[47]⟩ xb (by have : (⟨#[47]⟩ : ByteArray).size = 1 := rfl; omega)
        obtain ⟨J, hJ⟩ : ∃ J, (⟨#[47]⟩ : ByteArray) ++ xb = J := ⟨_, rfl⟩
        have hJd : J.data.toList = 47 :: x := by rw [← hJ, app_data, hxd]; rfl
        have hJs : J.size ≤ 10000 := by rw [← data_len, hJd]; simp; omega
        rw [hJ] at hsum
        have HRI := Lib.hid (fun wx hw => right_any ⟨#[71, 69, 84]⟩ J ⟨#[103, 101, 116]⟩ wx hw hJs)
        have hrt : rt ⟨#[71, 69, 84]⟩ J ⟨#[103, 101, 116]⟩ = wRt x := by rw [rt, hJd]; rfl
        rw [hrt] at HRI
        have HXZ := Lib.hid hxz
        clear hrt hJ hJd hJs hxz
        obtain ⟨rb, hrb⟩ : ∃ rb, rightL (wRt x) = rb := ⟨_, rfl⟩
        rw [hrb] at HRI
        have HRB := Lib.hid hrb
        clear hrb
        have HWX := Lib.hid (fun wx (h : Below wr.heap.size wr wx) => HW.out.below (HBW.out.trans (h.mono HBW.out.size)))
        go_upto_region 12 with fail
        go_cut [65] from 36 to 72 (fun tv wx => tv = .bool (!sn && wOk x) ∧ Hid (Below wr.heap.size wr wx))
        case first =>
          cases sn with
          | true =>
            go_wp2_with fail
            go_meet
            exact ⟨rfl, Below.refl _ _⟩
          | false =>
            go_wp2_with fail
            refine (HRI.out _ (HWX.out _ (Below.refl _ _))).mono ?_
            rintro e w7 ⟨rfl, hb7⟩
            have HB7 := Lib.hid hb7
            clear hb7
            cases rb with
            | false =>
              go_wp2_with fail
              go_meet
              exact ⟨by rw [wOk, HRB.out]; rfl, HB7.out⟩
            | true =>
              obtain ⟨eb, heb⟩ : ∃ eb, decide (x = []) = eb := ⟨_, rfl⟩
              have HEB := Lib.hid heb
              rw [heb] at hnl
              clear heb
              cases eb with
              | true =>
                go_wp2_with fail
                go_meet
                exact ⟨by rw [wOk, HRB.out, of_decide_eq_true HEB.out]; rfl, HB7.out⟩
              | false =>
                have hxe : x ≠ [] := of_decide_eq_false HEB.out
                have hsz : 0 < xb.size := by rw [HXZ.out]; exact List.length_pos_iff.2 hxe
                have hsz2 : (0 : Int) < (xb.size : Int) := by omega
                have hkd := kd_hd xb hsz
                rw [hxd] at hkd
                have HXE := Lib.hid hxe
                clear hxe
                by_cases ha : (xb[0].toNat : Int) = 58
                · have HKD : Hid (kd x = 1) := by show _ = _; rw [hkd, if_pos (by rw [beq_iff_eq]; exact ha)]
                  clear hkd
                  go_wp2_with fail
                  go_meet
                  exact ⟨by rw [wOk, HRB.out, HKD.out]; simp, HB7.out⟩
                · by_cases hc : (xb[0].toNat : Int) = 42
                  · have HKD : Hid (kd x = 2) := by show _ = _; rw [hkd, if_neg (by rw [beq_iff_eq]; exact ha), if_pos (by rw [beq_iff_eq]; exact hc)]
                    clear hkd ha
                    have ha : ((42 : Int) == 58) = false := rfl
                    go_wp2_with fail
                    go_meet
                    exact ⟨by rw [wOk, HRB.out, HKD.out]; simp, HB7.out⟩
                  · have HKD : Hid (kd x = 0) := by show _ = _; rw [hkd, if_neg (by rw [beq_iff_eq]; exact ha), if_neg (by rw [beq_iff_eq]; exact hc)]
                    clear hkd
                    go_wp2_with fail
                    go_meet
                    exact ⟨by rw [wOk, HRB.out, HKD.out]; simp [HXE.out, ha, hc], HB7.out⟩
        case rest =>
          obtain ⟨rfl, HB6⟩ := hcut
          obtain ⟨w6, hw6⟩ : ∃ w6, w6 = wc := ⟨_, rfl⟩
          subst hw6
          have HO6 := Lib.hid (own_below HO.out HB6.out)
          have HSN6 := Lib.hid (HSN.out.on HB6.out)
          have HG6 : Hid (g ≤ wr.heap.size) := by have := HSZ.out; have := HS2.out; show _ ≤ _; omega
          have HB6g : Hid (Below g w1 w6) := HB.out.trans (HB6.out.mono HG6.out)
          have HSZ6 : Hid (w2.heap.size ≤ w6.heap.size) := Nat.le_trans HSZ.out HB6.out.size
          obtain ⟨ac, hac⟩ : ∃ ac, (!sn && wOk x) = ac := ⟨_, rfl⟩
          rw [hac]
          have HAC := Lib.hid hac
          clear hac
          cases ac with
          | false =>
            go_wp2_with fail
            go_roundg (xs.length - (k + 1))
            case measure => omega
            case rel => exact ⟨k + 1, ws, by omega, rfl, by go_num, by omega, HWD.out, HO6.out, HSN6.out, HB6g.out, HSZ6.out⟩
          | true =>
            have hok : x ∉ ws ∧ wOk x = true := by
              have h1 := HAC.out
              rw [Bool.and_eq_true] at h1
              have h2 := HSE.out
              refine ⟨fun hm => ?_, h1.2⟩
              rw [decide_eq_true hm] at h2
              rw [← h2] at h1
              exact absurd h1.1 (by decide)
            obtain ⟨W5, hput, hSN5, hsz5, hbl5, hoth5⟩ := sn_put HSN6.out xb (by rw [hxd]; exact hok.1)
            rw [hxd] at hSN5
            have HO5 := Lib.hid (own_heap HO6.out (fun j h1 h2 => hoth5 j (by rw [HS2.out] at h1; omega)))
            have HSN5 := Lib.hid hSN5
            have HB5 : Hid (Below g w1 W5) := HB6g.out.trans (hbl5 g (Nat.le_refl _))
            have HSZ5 : Hid (w2.heap.size ≤ W5.heap.size) := by have := HSZ6.out; show _ ≤ _; omega
            have HWD2 := Lib.hid (HWD.out.snoc hok.1 hok.2 h30)
            have HO3 := Lib.hid (own_below HO5.out ((Below.refl W5.heap.size W5).alloc (Nat.le_refl _) (.cells #[.string xb] 9)))
            have HCE := Lib.hid (cell_one_new W5 (.string xb) 9)
            have HOC : Hid (∀ u ∈ [Value.string xb], u.oneCell' = true) := fun u hu => by simp at hu; subst hu; rfl
            have HA5 := Lib.hid ((Below.refl W5.heap.size W5).alloc (Nat.le_refl _) (.cells #[.string xb] 9))
            have H63 : Hid (ws.length + 1 ≤ maxLen) := by show _ ≤ _; unfold maxLen; omega
            have HBY : Hid ((ws.length + 1) * 16 ≤ 140737488355328) := by show _ ≤ _; omega
            have HBS : Hid (w2.heap.size ≤ (W5.alloc (.cells #[.string xb] 9)).heap.size) := Nat.le_trans HSZ5.out HA5.out.size
            clear hok hSN5 hsz5 hbl5 hoth5
            go_wp2_with (at_builtin; refine wpList_append_own_at _ rfl _ _ 28 rfl w2.heap.size 9 i0 (.string ⟨#[]⟩) 1 16 Tryd.underlying28 hi HZ.out.1 HZ.out.2.1 HZ.out.2.2 rfl (by decide) _ ws.length (ws.map strV) rfl HO3.out ⟨W5.heap.size, 0, none⟩ 1 1 [.string xb] rfl rfl HCE.out HOC.out H63.out HBY.out HBS.out ?_)
            intro v8 w8 hown8 hgr8 _ _
            have hb8 : Below w2.heap.size W5 w8 := (HA5.out.mono HSZ5.out).grown hgr8 HBS.out (fun k hk => (HO3.out.lt k hk).1)
            have HSN8 : Hid (SN w8 g (ws ++ [x])) := HSN5.out.eq (hb8.block g (by rw [HS2.out]; omega))
            have HB8 : Hid (Below g w1 w8) := HB5.out.trans (hb8.mono (by rw [HS2.out]; omega))
            have HSZ8 : Hid (w2.heap.size ≤ w8.heap.size) := Nat.le_trans HSZ5.out hb8.size
            have HO8 : Hid (w8.ownsRow w2.heap.size 9 1 v8 (ws ++ [x]).length ((ws ++ [x]).map strV)) := by
              show World.ownsRow _ _ _ _ _ _ _
              rw [List.length_append, List.map_append, List.map_cons, strV_mk, HXB.out]
              exact hown8
            clear hown8 hgr8 hb8
            go_wp2_with fail
            go_roundg (xs.length - (k + 1))
            case measure => omega
            case rel => exact ⟨k + 1, ws ++ [x], by omega, rfl, by go_num, by simp; omega, HWD2.out, HO8.out, HSN8.out, HB8.out, HSZ8.out⟩
      · have f30 : ¬ (xb.size : Int) ≤ 30 := by omega
        go_wp2_with fail
        go_ret
        exact ⟨rfl, HBW.out⟩
    · have hkn : ¬ (k : Int) < (xs.length : Int) := by omega
      clear hlt
      by_cases hn0 : ws.length = 0
      · have q1 : ((ws.length : Int) == 0) = true := by rw [beq_iff_eq]; omega
        clear hn0
        go_wp2_with fail
        go_ret
        exact ⟨rfl, HBW.out⟩
      · have q1 : ((ws.length : Int) == 0) = false := by rw [beq_eq_false_iff_ne]; omega
        have q2 : (ws.length : Int) ≤ 24 := by omega
        have hws0 : 0 < ws.length := by omega
        have HL24 : Hid (ws.length ≤ 24) := by show _ ≤ _; omega
        clear hn0
        obtain ⟨w3, hw3⟩ : ∃ w3, w3 = wr := ⟨_, rfl⟩
        subst hw3
        go_wp2_with fail
        go_loopg [83] ws.length (fun gk i wx => ∃ (j : Nat), j ≤ ws.length ∧ gk = ws.length - j ∧ i = .int .i64 j ∧ Hid (∀ t (h : t < ws.length), t < j → (47 : UInt8) ∉ ws[t]) ∧ wx = w3)
        case atStart => exact ⟨0, by omega, by omega, rfl, fun t h ht => absurd ht (by omega), rfl⟩
        case round =>
          obtain ⟨j, hj, rfl, rfl, HJ, hwr⟩ := hrel
          have hwr2 : w3 = wr := hwr.symm
          subst hwr2
          by_cases hjl : j < ws.length
          · obtain ⟨b, rfl, hbb, kb⟩ := seg_in HRW.out rfl j hjl
            obtain ⟨y, hy⟩ : ∃ y, ws[j] = y := ⟨_, rfl⟩
            have HJ2 : Hid ((47 : UInt8) ∉ y → ∀ t (h : t < ws.length), t < j + 1 → (47 : UInt8) ∉ ws[t]) := fun hny t h ht => by
              by_cases e : t = j
              · subst e; rw [hy]; exact hny
              · exact HJ.out t h (by omega)
            have hys : (mkB y).size ≤ 30 := by
              rw [mkB_size, ← hy]
              exact HWD.out.short _ (List.getElem_mem hjl)
            rw [hy] at kb
            clear hy
            have hyd : (mkB y).data.toList = y := mkB_data y
            generalize mkB y = yb at *
            rw [← hyd] at HJ2
            clear hyd
            have j0 : (0 : Int) ≤ (j : Int) := by omega
            have j1 : (j : Int) < (ws.length : Int) := by omega
            go_wp2_with fail
            go_loopg [89] yb.size (fun gk i wx => ∃ (t : Nat), t ≤ yb.size ∧ gk = yb.size - t ∧ i = .int .i64 t ∧ Hid ((47 : UInt8) ∉ yb.data.toList.take t) ∧ wx = w3)
            case atStart => exact ⟨0, by omega, by omega, rfl, (by show _ ∉ _; simp), rfl⟩
            case round =>
              obtain ⟨t, ht, rfl, rfl, HT, hwr⟩ := hrel
              have hwr2 : w3 = wr := hwr.symm
              subst hwr2
              by_cases htl : t < yb.size
              · have t0 : (0 : Int) ≤ (t : Int) := by omega
                have t1 : (t : Int) < (yb.size : Int) := by omega
                have HTS := Lib.hid (take_snoc yb t htl)
                by_cases hc : (yb[t].toNat : Int) = 47
                · go_wp2_with fail
                  go_ret
                  exact ⟨rfl, HBW.out⟩
                · have HT2 : Hid ((47 : UInt8) ∉ yb.data.toList.take (t + 1)) := by
                    show _ ∉ _
                    rw [HTS.out, List.mem_append]
                    rintro (h | h)
                    · exact HT.out h
                    · simp at h
                      rw [← h] at hc
                      exact hc (by decide)
                  go_wp2_with fail
                  go_roundg (yb.size - (t + 1))
                  case measure => omega
                  case rel => exact ⟨t + 1, by omega, rfl, by go_num, HT2, rfl⟩
              · have HT2 := Lib.hid (HJ2.out (by
                  have := HT.out
                  rw [take_all yb t (by omega)] at this
                  exact this))
                have htn : ¬ (t : Int) < (yb.size : Int) := by omega
                go_wp2_with fail
                go_roundg (ws.length - (j + 1))
                case measure => omega
                case rel => exact ⟨j + 1, by omega, rfl, by go_num, HT2.out, rfl⟩
          · have hje : j = ws.length := by omega
            have H47 : Hid (∀ s ∈ ws, (47 : UInt8) ∉ s) := fun s hs => by
              obtain ⟨t, ht, rfl⟩ := List.getElem_of_mem hs
              exact HJ.out t ht (by omega)
            have hjn : ¬ (j : Int) < (ws.length : Int) := by omega
            obtain ⟨tr, hat, hatl⟩ : ∃ k : Nat, Int.tmod (n % 65536) (ws.length : Int) = (k : Int) ∧ k < ws.length := by
              have h1 := HNN.out
              have h2 : Int.tmod (n % 65536) (ws.length : Int) = (n % 65536) % (ws.length : Int) := Int.tmod_eq_emod_of_nonneg h1
              have h3 := Int.emod_nonneg (n % 65536) (b := (ws.length : Int)) (by omega)
              have h4 := Int.emod_lt_of_pos (n % 65536) (b := (ws.length : Int)) (by omega)
              exact ⟨((n % 65536) % (ws.length : Int)).toNat, by rw [h2]; omega, by omega⟩
            have HTL := Lib.hid hatl
            clear hje hatl hjl hj
            have HLW := Lib.hid ((w_law HWD.out HL24.out H47.out).perm ((rot_perm ws tr).map wRt))
            have HRL : Hid (((rotW ws tr).map wRt).length = ws.length) := by show _ = _; rw [List.length_map, rot_len ws tr (Nat.le_of_lt HTL.out)]
            have HMO := Lib.hid (w_match HWD.out HL24.out H47.out ((rot_perm ws tr).map wRt))
            have HBW3 := Lib.hid HBW.out
            go_wp2_with fail
            go_loopg [12, 105] ws.length (fun gk tv i wx => ∃ (k2 : Nat) (vb : Option Addr), k2 ≤ ws.length ∧ gk = ws.length - k2 ∧ i = .int .i64 k2 ∧ tv = .pointer vb ∧ Hid (Tr wx wx.heap.size vb (((rotW ws tr).map wRt).take k2)) ∧ Hid (Below w3.heap.size w3 wx))
            case atStart => exact ⟨0, none, by omega, by omega, rfl, rfl, Tr.nil _ _, Below.refl _ _⟩
            case round =>
              obtain ⟨k2, vb, hk2, rfl, rfl, rfl, HT, HB2⟩ := hrel
              by_cases hkl : k2 < ws.length
              · have hidx : (k2 + tr) % ws.length < ws.length := Nat.mod_lt _ hws0
                have htl := HTL.out
                have hra := rot_at ws tr k2 htl hkl hidx
                have hmod : Int.tmod ((k2 : Int) + (tr : Int)) (ws.length : Int) = (((k2 + tr) % ws.length : Nat) : Int) := by
                  rw [Int.tmod_eq_emod_of_nonneg (by omega)]
                  norm_cast
                generalize (k2 + tr) % ws.length = jx at *
                obtain ⟨b, rfl, hbb, kb⟩ := seg_in (HRW.out.below HB2.out (Nat.le_refl _)) rfl jx hidx
                have hmem : ws[jx] ∈ ws := List.getElem_mem hidx
                have hpt := w_pat (HWD.out.ok _ hmem) (HWD.out.short _ hmem)
                have hys : (mkB ws[jx]).size ≤ 30 := by rw [mkB_size]; exact HWD.out.short _ hmem
                have hyd : (mkB ws[jx]).data.toList = ws[jx] := mkB_data _
                generalize ws[jx] = y at *
                clear hmem
                generalize mkB y = yb at *
                have hsum := add_str ⟨#[47]⟩ yb (by have : (⟨#[47]⟩ : ByteArray).size = 1 := rfl; omega)
                obtain ⟨J, hJ⟩ : ∃ J, (⟨#[47]⟩ : ByteArray) ++ yb = J := ⟨_, rfl⟩
                have hJd : J = mkB (47 :: y) := by
                  apply bytes_ext
                  rw [← hJ, app_data, hyd, mkB_data]; rfl
                rw [hJ] at hsum
                have HA := Lib.hid ((Below.refl wr.heap.size wr).alloc (Nat.le_refl _) (.cells #[.string ⟨#[71, 69, 84]⟩, .string J, .string ⟨#[103, 101, 116]⟩] 41))
                have hwi := with_any vb (((rotW ws tr).map wRt).take k2) [wRt y] (some ⟨wr.heap.size, 0, none⟩) 1 (wr.alloc (.cells #[.string ⟨#[71, 69, 84]⟩, .string J, .string ⟨#[103, 101, 116]⟩] 41)) (HT.out.on HA.out) (by
                  rw [wrt_cells y J hJd]
                  exact rd_new wr #[.string ⟨#[71, 69, 84]⟩, .string J, .string ⟨#[103, 101, 116]⟩] 41 3 1 rfl) (fun r hr => by simp at hr; subst hr; exact hpt) (by rw [List.length_take]; simp; omega)
                have htk : ((rotW ws tr).map wRt).take k2 ++ [wRt y] = ((rotW ws tr).map wRt).take (k2 + 1) := by
                  rw [List.take_add_one, List.getElem?_map, hra]; rfl
                rw [htk, show [wRt y].length = 1 from rfl] at hwi
                have HWI := Lib.hid hwi
                clear hwi htk hpt hyd hJ hJd hra
                have i0' : (0 : Int) ≤ (jx : Int) := by omega
                have i1' : (jx : Int) < (ws.length : Int) := by omega
                have hwr : IntKind.i64.wrap ((k2 : Int) + (tr : Int)) = (k2 : Int) + (tr : Int) := by rw [IntKind.wrap_i64]; omega
                clear htl hidx
                go_wp2_with fail
                refine HWI.out.mono ?_
                rintro e w5 ⟨gb, rfl, htb, hb5⟩
                have HT5 := Lib.hid htb
                have HB5 : Hid (Below w3.heap.size w3 w5) := bt HB2.out (HA.out.trans (hb5.mono HA.out.size))
                clear htb hb5
                go_wp2_with fail
                go_roundg (ws.length - (k2 + 1))
                case measure => omega
                case rel => exact ⟨k2 + 1, _, by omega, rfl, by go_num, rfl, HT5.out, HB5.out⟩
              · have hke : k2 = ws.length := by omega
                have HT4 : Hid (Tr wr wr.heap.size vb ((rotW ws tr).map wRt)) := by
                  have := HT.out
                  rw [List.take_of_length_le (by rw [HRL.out]; omega)] at this
                  exact this
                have hkn2 : ¬ (k2 : Int) < (ws.length : Int) := by omega
                clear hke HT
                obtain ⟨w4, hw4⟩ : ∃ w4, w4 = wr := ⟨_, rfl⟩
                subst hw4
                have HSN4 := Lib.hid (HSN.out.on HB2.out)
                have HRW4 := Lib.hid ((HRW.out.below HB2.out (Nat.le_refl _)).wide HB2.out.size)
                have HBW4 := Lib.hid (bt HBW3.out HB2.out)
                generalize (rotW ws tr).map wRt = RL at *
                go_wp2_with fail
                go_loopg [125] ws.length (fun gk i wx => ∃ (k3 : Nat), k3 ≤ ws.length ∧ gk = ws.length - k3 ∧ i = .int .i64 k3 ∧ Hid (Below w4.heap.size w4 wx))
                case atStart => exact ⟨0, by omega, by omega, rfl, Below.refl _ _⟩
                case round =>
                  obtain ⟨k3, hk3, rfl, rfl, HB3⟩ := hrel
                  by_cases hkl3 : k3 < ws.length
                  · obtain ⟨b, rfl, hbb, kb⟩ := seg_in (HRW4.out.below HB3.out (Nat.le_refl _)) rfl k3 hkl3
                    have hmem : ws[k3] ∈ ws := List.getElem_mem hkl3
                    obtain ⟨s, hs⟩ : ∃ s, ws[k3] = s := ⟨_, rfl⟩
                    rw [hs] at kb hmem
                    have hs30 := HWD.out.short s hmem
                    have hsne := (HWD.out.ne hmem).1
                    have HNI : Hid ([] ∉ ws) := fun h => (HWD.out.ne h).1 rfl
                    have hspos := List.length_pos_iff.2 hsne
                    have hm1 := one_match HMO.out HLW.out vb wr s (by omega) (HT4.out.on HB3.out)
                    rw [decide_eq_true hmem] at hm1
                    have HM := Lib.hid (fun wx (h : Below w4.heap.size w4 wx) x hx => one_match HMO.out HLW.out vb wx x hx (HT4.out.on h))
                    have HLK := Lib.hid (fun wx (h : Below w4.heap.size w4 wx) (J : ByteArray) => sn_look (HSN4.out.on h) J)
                    obtain ⟨mm, hmm2⟩ : ∃ mm, s.length = mm + 1 := ⟨s.length - 1, by omega⟩
                    have hsd : (mkB s).data.toList = s := mkB_data s
                    have hsz : (mkB s).size = mm + 1 := by rw [mkB_size, hmm2]
                    generalize mkB s = sb at *
                    have h2s := add_str sb ⟨#[126]⟩ (by have : (⟨#[126]⟩ : ByteArray).size = 1 := rfl; omega)
                    obtain ⟨J2, hJ2⟩ : ∃ J2, sb ++ (⟨#[126]⟩ : ByteArray) = J2 := ⟨_, rfl⟩
                    have hJ2d : J2 = mkB (s ++ [126]) := by
                      apply bytes_ext
                      rw [← hJ2, app_data, hsd, mkB_data]
                    rw [hJ2] at h2s
                    have HM2 := Lib.hid (fun wx (h : Below w4.heap.size w4 wx) => HM.out wx h (s ++ [126]) (by simp; omega))
                    have HL2 := Lib.hid (fun wx (h : Below w4.heap.size w4 wx) => HLK.out wx h J2)
                    rw [← hJ2d] at HM2
                    rw [hJ2d, mkB_data, ← hJ2d] at HL2
                    obtain ⟨J3, hJ3⟩ : ∃ J3, sb.extract 0 mm = J3 := ⟨_, rfl⟩
                    have hJ3d : J3 = mkB (s.take mm) := by
                      apply bytes_ext
                      rw [← hJ3, ext_data, hsd, mkB_data]
                      try simp
                    have HM3 := Lib.hid (fun wx (h : Below w4.heap.size w4 wx) => HM.out wx h (s.take mm) (by rw [List.length_take]; omega))
                    have HL3 := Lib.hid (fun wx (h : Below w4.heap.size w4 wx) => HLK.out wx h J3)
                    rw [← hJ3d] at HM3
                    rw [hJ3d, mkB_data, ← hJ3d] at HL3
                    have HD3 : Hid (mm = 0 → decide (s.take mm ∈ ws) = false) := fun h => by
                      rw [h]
                      exact decide_eq_false HNI.out
                    generalize decide (s ++ [126] ∈ ws) = d2 at *
                    generalize decide (s.take mm ∈ ws) = d3 at *
                    have HM1 := Lib.hid hm1
                    have j0 : (0 : Int) ≤ (k3 : Int) := by omega
                    have j1 : (k3 : Int) < (ws.length : Int) := by omega
                    have hm30 : mm ≤ 1000 := by omega
                    have m0 : (0 : Int) ≤ (mm : Int) := by omega
                    have m1 : (mm : Int) ≤ (sb.size : Int) := by omega
                    have hsub2 : wrap64 ((sb.size : Int) - 1) = (mm : Int) := sub64w sb.size mm hsz hm30
                    have hgt := gt_one sb.size mm hsz
                    have HMM := Lib.hid hmm2
                    have HSZ0 := Lib.hid hsz
                    clear hm1 hsd hJ2 hJ2d hJ3d hs hmem hsne hspos hs30 hmm2 hsz
                    go_wp2_with fail
                    refine HM1.out.mono ?_
                    rintro e w5 ⟨hb1, P1, n1, c1, Q1, q1', d1, rfl, hb5⟩
                    have HB6 : Hid (Below w4.heap.size w4 (w5.alloc (.cells #[.string hb1, .slice P1 n1 c1, .slice Q1 q1' d1] 32))) := bt HB3.out (hb5.alloc hb5.size _)
                    clear hb5
                    go_upto_region 41 with fail
                    generalize w5.alloc (.cells #[.string hb1, .slice P1 n1 c1, .slice Q1 q1' d1] 32) = w6 at *
                    go_wp2_with fail
                    refine (HM2.out w6 HB6.out).mono ?_
                    rintro e w7 ⟨hb2, P2, n2, c2, Q2, q2', dd2, rfl, hb7⟩
                    have HB8 : Hid (Below w4.heap.size w4 (w7.alloc (.cells #[.string hb2, .slice P2 n2 c2, .slice Q2 q2' dd2] 32))) := bt HB6.out (hb7.alloc hb7.size _)
                    clear hb7
                    go_upto_region 42 with fail
                    generalize w7.alloc (.cells #[.string hb2, .slice P2 n2 c2, .slice Q2 q2' dd2] 32) = w8 at *
                    have hl2 := HL2.out w8 HB8.out
                    go_upto_region 44 with fail
                    go_wp2_with fail
                    refine (HM3.out w8 HB8.out).mono ?_
                    rintro e w9 ⟨hb3, P3, n3, c3, Q3, q3', dd3, rfl, hb9⟩
                    have HB10 : Hid (Below w4.heap.size w4 (w9.alloc (.cells #[.string hb3, .slice P3 n3 c3, .slice Q3 q3' dd3] 32))) := bt HB8.out (hb9.alloc hb9.size _)
                    clear hb9
                    go_upto_region 45 with fail
                    generalize w9.alloc (.cells #[.string hb3, .slice P3 n3 c3, .slice Q3 q3' dd3] 32) = w10 at *
                    have hl3 := HL3.out w10 HB10.out
                    by_cases hm0 : mm = 0
                    · have hd3 := HD3.out hm0
                      subst hd3
                      have hgt2 : decide ((1 : Int) < (sb.size : Int)) = false := by rw [hgt, hm0]; rfl
                      clear hgt hm0
                      go_wp2_with fail
                      clear hsub2
                      go_roundg (ws.length - (k3 + 1))
                      case measure => omega
                      case rel => exact ⟨k3 + 1, by omega, rfl, by go_num, HB10.out⟩
                    · have hgt2 : decide ((1 : Int) < (sb.size : Int)) = true := by rw [hgt, decide_eq_true (Nat.pos_of_ne_zero hm0)]
                      have hgt3 : (1 : Int) < (sb.size : Int) := of_decide_eq_true hgt2
                      clear hgt
                      cases d3
                      all_goals
                        go_wp2_with fail
                        clear hsub2
                        go_roundg (ws.length - (k3 + 1))
                        case measure => omega
                        case rel => exact ⟨k3 + 1, by omega, rfl, by go_num, HB10.out⟩
                  · have HLA := Lib.hid (len_any wr.heap.size vb RL wr (HT4.out.on HB3.out))
                    rw [HRL.out] at HLA
                    have hkn3 : ¬ (k3 : Int) < (ws.length : Int) := by omega
                    go_wp2_with fail
                    refine HLA.out.mono ?_
                    rintro e w8 ⟨rfl, rfl⟩
                    go_wp2_with fail
                    go_ret
                    exact ⟨by simp, bt HBW4.out HB3.out⟩

set_option maxRecDepth 100000 in
set_option maxHeartbeats 4000000 in
theorem words_walk (xs : List Seg) (A : Option Addr) (c : Nat) (n : Int) (w : World) (hr : Rd w w.heap.size 1 A xs.length (xs.map strV)) (_hl : xs.length ≤ c) (_hm : c ≤ maxLen) (_hz : ∀ s ∈ xs, s.length ≤ 140737488355328) (hw : HB w) :
    Calls Tryd.prog 7 #[.slice A xs.length c, .int .i64 n] w fun e w' => e = .returned (.bool true) ∧ Below w.heap.size w w' := by
  by_cases h : 0 < xs.length ∧ xs.length ≤ 20
  · exact words_walk0 xs A c n w hr hw h.1 h.2
  · have HF := Lib.hid (fit_any w hw)
    clear hr hw _hz
    have hcase : ((xs.length : Int) == 0) = true ∨ (((xs.length : Int) == 0) = false ∧ ¬ (xs.length : Int) ≤ 20) := by
      by_cases h0 : xs.length = 0
      · left; rw [beq_iff_eq]; omega
      · right
        exact ⟨by rw [beq_eq_false_iff_ne]; omega, by omega⟩
    clear h
    rcases hcase with h1 | ⟨h1, h2⟩
    all_goals
      go_enter Tryd.func7, Tryd.ntmps7
      go_wp2_with fail
      refine HF.out.mono ?_
      rintro e w1 ⟨rfl, hb1⟩
      go_wp2_with fail
      go_ret
      exact ⟨rfl, hb1⟩
end Go.Proofs.YtekjpcmobgdgpaaDoor
