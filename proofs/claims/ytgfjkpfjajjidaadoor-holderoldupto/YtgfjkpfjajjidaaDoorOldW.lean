/- The walk of HolderOld. -/
import Derived.Test.YtgfjkpfjajjidaaDoorHoFit
import Derived.Test.YtgfjkpfjajjidaaDoorKeepsW
namespace Go.Proofs.YtgfjkpfjajjidaaDoor
open Go.RowKit Pl

def healthL : Seg := [104, 101, 97, 108, 116, 104]
theorem health_match : matchL [71, 69, 84] [healthL] firstR = ⟨healthL, [], [], true⟩ := by
  have h : bestL cutL [71, 69, 84] [healthL] firstR = some ⟨[71, 69, 84], [47, 104, 101, 97, 108, 116, 104], [104, 101, 97, 108, 116, 104]⟩ := by decide +kernel
  unfold matchL
  rw [h]
  rfl
/-- Cells that are none of the holder's are as they were. -/
def Kp (G : Nat) (w w' : World) : Prop := w.heap.size ≤ w'.heap.size ∧ ∀ p : Addr, p.block < w.heap.size → p.block ≠ G → w'.cell? p = w.cell? p
theorem Kp.refl (G : Nat) (w : World) : Kp G w w := ⟨Nat.le_refl _, fun _ _ _ => rfl⟩
theorem Kp.swp {G : Nat} {w w1 w2 : World} (h : Kp G w w1) (hs : Swp G w1 w2) : Kp G w w2 :=
  ⟨Nat.le_trans h.1 hs.size, fun p hp hG => (hs.cell (Nat.lt_of_lt_of_le hp h.1) hG).trans (h.2 p hp hG)⟩
theorem Kp.on {G : Nat} {w w1 w2 : World} (h : Kp G w w1) (hb : Below w1.heap.size w1 w2) : Kp G w w2 :=
  ⟨Nat.le_trans h.1 hb.size, fun p hp hG => (hb.cell (Nat.lt_of_lt_of_le hp h.1)).trans (h.2 p hp hG)⟩
theorem pth_one (w : World) (s : Seg) (hs : s.length ≤ 1000) : Pth (w.alloc (.cells #[.string (mkB s)] 9)) (w.alloc (.cells #[.string (mkB s)] 9)).heap.size (some ⟨w.heap.size, 0, none⟩) 1 1 [s] :=
  Pth.of (xs := [s]) (c := 1) (rd_new w #[.string (mkB s)] 9 1 1 rfl) (by simp) (by simp) (fun x hx => by simp at hx; subst hx; omega)
/-- What a holder has: whatever it is. -/
def HoX (w : World) (G : Nat) (m : Nat) : Prop := ∃ v A n c l, HoAt w G v A n c l m ∧ Law l
theorem HoX.on {w w' : World} {G m : Nat} (h : HoX w G m) (hb : Below w.heap.size w w') : HoX w' G m := by
  obtain ⟨v, A, n, c, l, h1, h2⟩ := h
  exact ⟨v, A, n, c, l, h1.on hb, h2⟩
theorem HoX.swap {G m : Nat} (s : ByteArray) (w : World) (h : HoX w G m) (hw : HB w) (hs : s.size ≤ 10000) (hm : m ≤ 1000) :
    Calls Tryd.prog 16 #[.pointer (some ⟨G, 0, none⟩), .string s] w fun e w' => (∃ a b : Int, e = .returned (.tuple #[.int .i64 a, .int .i64 b])) ∧ (∃ m', m' ≤ m + 1 ∧ HoX w' G m') ∧ Swp G w w' := by
  obtain ⟨v, A, n, c, l, h1, h2⟩ := h
  refine (swap_any G v A n c m l s w h1 hw hs (by omega)).mono ?_
  rintro e w' ⟨v', A', n', c', he, hh, hs'⟩
  refine ⟨⟨_, _, he⟩, ⟨_, ?_, v', A', n', c', _, hh, law_swap _ _ (by rw [data_len]; exact hs) h2⟩, hs'⟩
  unfold swapV
  split <;> omega
theorem HoX.bk {w : World} {G m : Nat} (h : HoX w G m) : ∃ v A n c, HoBk w G 77 v A n c m := by
  obtain ⟨v, A, n, c, l, h1, _⟩ := h
  exact ⟨v, A, n, c, h1.bk⟩
theorem SnAt.swx {w w' : World} {G m : Nat} {v A : Option Addr} {n c : Nat} {l : List Rt} (h : SnAt w G v A n c l) (hG : HoX w G m) (hs : Swp G w w') : SnAt w' G v A n c l := by
  obtain ⟨v', A', n', c', hk⟩ := hG.bk
  exact h.swp hk hs

set_option maxRecDepth 100000 in
set_option maxHeartbeats 8000000 in
theorem old_walk0 (ts : List Seg) (TA : Option Addr) (tc : Nat) (xs : List Seg) (XA : Option Addr) (xc : Nat) (w : World) (ht : Rd w w.heap.size 1 TA ts.length (ts.map strV)) (htn : ts.length ≤ 12) (hts : ∀ t ∈ ts, t.length ≤ 2000000)
    (hp : Pth w w.heap.size XA xs.length xc xs) (hxn : xs.length ≤ 12) (hw : HB w) :
    Calls Tryd.prog 6 #[.slice TA ts.length tc, .slice XA xs.length xc] w fun e w' => e = .returned (.bool true) ∧ Below w.heap.size w w' := by
  have HW := Lib.hid hw
  have HTS := Lib.hid ht
  have HTL := Lib.hid hts
  have HF := Lib.hid (fith_any w hw)
  have HFR := Lib.hid (fun w1 => first_rows w1)
  have HNW : Hid (∀ w0 w1, Below w.heap.size w w1 → Rd w1 w1.heap.size 3 (some ⟨w0, 0, none⟩) 8 (rtCells firstR) → Calls Tryd.prog 12 #[.slice (some ⟨w0, 0, none⟩) 8 8] w1 fun e w' => ∃ G v A' c', e = .returned (.pointer (some ⟨G, 0, none⟩)) ∧ HoAt w' G v A' 8 c' firstR 1 ∧ w1.heap.size ≤ G ∧ Below w1.heap.size w1 w') := fun w0 w1 hb hr => by
    have := new_any firstR (some ⟨w0, 0, none⟩) 8 w1 hr (hw.below hb) (by decide) first_short
    rw [first_new] at this
    exact this
  have HLD : Hid (∀ G v A c wx, HoAt wx G v A 8 c firstR 1 → Calls Tryd.prog 15 #[.pointer (some ⟨G, 0, none⟩)] wx fun e w' => ∃ v' A' c', e = .returned (.agg #[.pointer v', .int .i64 1, .slice A' 8 c']) ∧ SnAt w' G v' A' 8 c' firstR ∧ Below wx.heap.size wx w') := fun G v A c wx h => load_any G v A 8 c firstR 1 wx h first_law
  have HLN : Hid (∀ wx v G A n c, SnAt wx G v A n c firstR → Calls Tryd.prog 17 #[.pointer v] wx fun e w' => e = .returned (.int .i64 8) ∧ wx = w') := fun wx v G A n c h => len_any wx.heap.size v firstR wx h.tr
  have HMA := Lib.hid (fun v wx (h : Tr wx wx.heap.size v firstR) (hb : Below w.heap.size w wx) => match_any v firstR ⟨#[71, 69, 84]⟩ XA xs.length xc xs wx h first_law.good first_law.apart ((hp.keep hb (Nat.le_refl _)).wide hb.size) (by decide))
  have HMH := Lib.hid (fun v wx A (h : Tr wx wx.heap.size v firstR) (hpp : Pth wx wx.heap.size A 1 1 [healthL]) => match_any v firstR ⟨#[71, 69, 84]⟩ A 1 1 [healthL] wx h first_law.good first_law.apart hpp (by decide))
  rw [show (ByteArray.mk #[71, 69, 84]).data.toList = [71, 69, 84] from rfl] at HMA HMH
  rw [health_match] at HMH
  have HPO : Hid (∀ wx : World, Pth (wx.alloc (.cells #[.string ⟨#[104, 101, 97, 108, 116, 104]⟩] 9)) (wx.alloc (.cells #[.string ⟨#[104, 101, 97, 108, 116, 104]⟩] 9)).heap.size (some ⟨wx.heap.size, 0, none⟩) 1 1 [healthL]) := fun wx => pth_one wx healthL (by decide)
  generalize matchL [71, 69, 84] xs firstR = T at *
  have HSW := Lib.hid (fun G m s wx (h : HoX wx G m) (hb : Below w.heap.size w wx) h1 h2 => HoX.swap s wx h (hw.below hb) h1 h2)
  have HL := Lib.hid first_law
  have HQ : Hid (((mkB healthL).toList == [104, 101, 97, 108, 116, 104]) = true) := by show _ = _; rw [eq_list, mkB_data]; decide
  clear ht hts hw hp
  generalize firstR = FR at *
  generalize healthL = HE at *
  go_enter Tryd.func6, Tryd.ntmps6
  go_wp2_with fail
  refine HF.out.mono ?_
  rintro e w1 ⟨rfl, hb1⟩
  have HB1 := Lib.hid hb1
  clear hb1
  go_wp2_with fail
  refine (HFR.out w1).mono ?_
  rintro e w2 ⟨rfl, hr2, hb2⟩
  have HB2 := Lib.hid (bt HB1.out hb2)
  have HN2 := Lib.hid (HNW.out w1.heap.size w2 HB2.out hr2)
  clear hb2 hr2
  go_wp2_with fail
  refine HN2.out.mono ?_
  rintro e w3 ⟨G, v3, A3, c3, rfl, hh, hG, hb3⟩
  have HB3 := Lib.hid (bt HB2.out hb3)
  have HH3 := Lib.hid hh
  have HG : Hid (w.heap.size ≤ G) := Nat.le_trans HB2.out.size hG
  have HL3 := Lib.hid (HLD.out G v3 A3 c3 w3 hh)
  clear hh hG hb3
  go_wp2_with fail
  refine HL3.out.mono ?_
  rintro e w4 ⟨v4, A4, c4, rfl, hs4, hb4⟩
  have hA := (Below.refl w4.heap.size w4).alloc (Nat.le_refl _) (.cells #[.pointer v4, .int .i64 1, .slice A4 8 c4] 49)
  have HB5 := Lib.hid (bt HB3.out (bt hb4 hA))
  have HX5 : Hid (HoX (w4.alloc (.cells #[.pointer v4, .int .i64 1, .slice A4 8 c4] 49)) G 1) := ⟨v3, A3, 8, c3, FR, HH3.out.on (bt hb4 hA), HL.out⟩
  have HS5 := Lib.hid (hs4.on hA)
  have x0 := new_cell4 w4 #[.pointer v4, .int .i64 1, .slice A4 8 c4] 49 0
  have x1 := new_cell4 w4 #[.pointer v4, .int .i64 1, .slice A4 8 c4] 49 1
  simp only [List.getElem?_toArray, List.getElem?_cons_succ, List.getElem?_cons_zero] at x0 x1
  have HG4 : Hid (G < w4.heap.size) := Nat.lt_of_lt_of_le HH3.out.bk.lt hb4.size
  have HF5 : Hid (w4.heap.size < (w4.alloc (.cells #[.pointer v4, .int .i64 1, .slice A4 8 c4] 49)).heap.size) := by show _ < _; simp
  have X1 := Lib.hid x1
  have X0 := Lib.hid x0
  clear hs4 hb4 hA x1 HH3 HL3 HN2
  go_upto_region 7 with fail
  generalize w4.alloc (.cells #[.pointer v4, .int .i64 1, .slice A4 8 c4] 49) = w5 at *
  generalize w4.heap.size = F at *
  have hA6 := (Below.refl w5.heap.size w5).alloc (Nat.le_refl _) (.cells #[.string ⟨#[104, 101, 97, 108, 116, 104]⟩] 9)
  have HM6 := Lib.hid (HMH.out v4 _ _ ((HS5.out.on hA6).tr) (HPO.out w5))
  have x06 := (hA6.cell (p := ⟨F, 0, none⟩) HF5.out).trans x0
  have HA6 := Lib.hid hA6
  clear hA6
  go_wp2_with fail
  refine HM6.out.mono ?_
  rintro e w7 ⟨⟨P1, n1, d1, Q1, m1, e1, he, _⟩, hb7⟩
  dsimp only at he
  subst he
  obtain ⟨hb, hhb⟩ : ∃ hb, mkB HE = hb := ⟨_, rfl⟩
  have hA8 := (Below.refl w7.heap.size w7).alloc (Nat.le_refl _) (.cells #[.string hb, .slice P1 n1 d1, .slice Q1 m1 e1] 34)
  have h58 := bt HA6.out (bt hb7 hA8)
  have HB8 := Lib.hid (bt HB5.out h58)
  have HX8 := Lib.hid (HX5.out.on h58)
  have HS8 := Lib.hid (HS5.out.on h58)
  have x08 := (h58.cell (p := ⟨F, 0, none⟩) HF5.out).trans x0
  have X18 := Lib.hid ((h58.cell (p := ⟨F, 1, none⟩) HF5.out).trans X1.out)
  have y0 := new_cell4 w7 #[.string hb, .slice P1 n1 d1, .slice Q1 m1 e1] 34 0
  simp only [List.getElem?_toArray, List.getElem?_cons_zero] at y0
  have Y0 := Lib.hid y0
  have HF7 : Hid (F < w7.heap.size) := Nat.lt_of_lt_of_le HF5.out (bt HA6.out hb7).size
  have HF8 : Hid (w7.heap.size < (w7.alloc (.cells #[.string hb, .slice P1 n1 d1, .slice Q1 m1 e1] 34)).heap.size) := by show _ < _; simp
  have HG7 : Hid (G < w7.heap.size) := Nat.lt_trans HG4.out HF7.out
  have HHB := Lib.hid hhb
  rw [hhb]
  have HM8 := Lib.hid (HMA.out v4 _ HS8.out.tr HB8.out)
  clear hA8 h58 y0 hb7 hhb x06
  go_upto_region 8 with fail
  clear x0
  generalize w7.alloc (.cells #[.string hb, .slice P1 n1 d1, .slice Q1 m1 e1] 34) = w8 at *
  generalize w7.heap.size = M1 at *
  go_wp2_with fail
  refine HM8.out.mono ?_
  rintro e w9 ⟨⟨P2, n2, d2, Q2, m2, e2, rfl, _⟩, hb9⟩
  obtain ⟨tb, htb⟩ : ∃ tb, mkB T.h = tb := ⟨_, rfl⟩
  rw [htb]
  have hA10 := (Below.refl w9.heap.size w9).alloc (Nat.le_refl _) (.cells #[.string tb, .slice P2 n2 d2, .slice Q2 m2 e2] 34)
  have h810 := bt hb9 hA10
  have HB10 := Lib.hid (bt HB8.out h810)
  have HX10 := Lib.hid (HX8.out.on h810)
  have HS10 := Lib.hid (HS8.out.on h810)
  have X010 := Lib.hid ((h810.cell (p := ⟨F, 0, none⟩) (Nat.lt_trans HF7.out HF8.out)).trans x08)
  have X110 := Lib.hid ((h810.cell (p := ⟨F, 1, none⟩) (Nat.lt_trans HF7.out HF8.out)).trans X18.out)
  have Y010 := Lib.hid ((h810.cell (p := ⟨M1, 0, none⟩) HF8.out).trans Y0.out)
  have z0 := new_cell4 w9 #[.string tb, .slice P2 n2 d2, .slice Q2 m2 e2] 34 0
  simp only [List.getElem?_toArray, List.getElem?_cons_zero] at z0
  have Z0 := Lib.hid z0
  have HF9 : Hid (M1 < w9.heap.size) := Nat.lt_of_lt_of_le HF8.out hb9.size
  have HF10 : Hid (w9.heap.size < (w9.alloc (.cells #[.string tb, .slice P2 n2 d2, .slice Q2 m2 e2] 34)).heap.size) := by show _ < _; simp
  have HTB := Lib.hid htb
  clear hA10 h810 z0 hb9 htb x08
  go_wp2_with fail
  generalize w9.alloc (.cells #[.string tb, .slice P2 n2 d2, .slice Q2 m2 e2] 34) = w10 at *
  generalize w9.heap.size = M2 at *
  go_loopw [47] (fun i wr => ∃ (k m : Nat), k ≤ ts.length ∧ i = .int .i64 k ∧ m ≤ 1 + k ∧ Hid (HoX wr G m) ∧ Hid (SnAt wr G v4 A4 8 c4 FR) ∧ Hid (Kp G w10 wr) ∧ Hid (Below w.heap.size w wr)) (fun i _ => ts.length - (intOf i).toNat)
  case atStart => exact ⟨0, 1, by omega, rfl, by omega, HX10.out, HS10.out, Kp.refl _ _, HB10.out⟩
  case round =>
    obtain ⟨k, m, hk, rfl, hm, HX, HS, HK, HB⟩ := hrel
    by_cases hlt : k < ts.length
    · obtain ⟨a, rfl, hab, k0⟩ := seg_in (HTS.out.below HB.out (Nat.le_refl _)) rfl k hlt
      have hts := HTL.out _ (List.getElem_mem hlt)
      obtain ⟨tt, htt⟩ : ∃ tt, mkB ts[k] = tt := ⟨_, rfl⟩
      have hsz : tt.size ≤ 2000000 := by rw [← htt, mkB_size]; exact hts
      rw [htt] at k0
      clear hts htt
      by_cases h15 : tt.size ≤ 1500
      · have g15 : decide ((1500 : Int) < (tt.size : Int)) = false := by rw [decide_eq_false_iff_not]; omega
        have HSW2 := Lib.hid (HSW.out G m tt wr HX.out HB.out (by omega) (by omega))
        go_wp2_with fail
        refine HSW2.out.mono ?_
        rintro e w11 ⟨⟨r1, r2, rfl⟩, ⟨m', hm', hx'⟩, hs'⟩
        have HX' := Lib.hid hx'
        have HS' := Lib.hid (HS.out.swx HX.out hs')
        have HK' := Lib.hid (HK.out.swp hs')
        have HB' := Lib.hid (HB.out.trans (hs'.below HB.out.size HG.out))
        clear hx' hs'
        go_wp2_with fail
        go_roundw
        case rel => exact ⟨k + 1, m', by omega, by go_num, by omega, HX', HS', HK', HB'⟩
        case measure => simp [intOf]; omega
      · have g15 : decide ((1500 : Int) < (tt.size : Int)) = true := by rw [decide_eq_true_eq]; omega
        have g16 : (1500 : Int) < (tt.size : Int) := by omega
        go_wp2_with fail
        go_ret
        exact ⟨rfl, HB.out⟩
    · have HKC : Hid (∀ wx, Below wr.heap.size wr wx → ∀ p : Addr, p.block < w10.heap.size → p.block ≠ G → wx.cell? p = w10.cell? p) := fun wx h p hp hG => (HK.out.on h).2 p hp hG
      have l9 := HF9.out; have l10 := HF10.out; have l7 := HF7.out; have l8 := HF8.out; have l4 := HG4.out
      have hFG : F ≠ G := by omega
      have hM1 : M1 ≠ G := by omega
      have hM2 : M2 ≠ G := by omega
      have q0 := (HKC.out wr (Below.refl _ _) ⟨F, 0, none⟩ (by show F < _; omega) hFG).trans X010.out
      have hA := (Below.refl wr.heap.size wr).alloc (Nat.le_refl _) (.cells #[.string ⟨#[104, 101, 97, 108, 116, 104]⟩] 9)
      have HMa := Lib.hid (HMH.out v4 _ _ ((HS.out.on hA).tr) (HPO.out wr))
      have HA := Lib.hid hA
      have HQB : Hid ((hb.toList == [104, 101, 97, 108, 116, 104]) = true) := by show _ = _; rw [← HHB.out]; exact HQ.out
      have hsz10 := HK.out.1
      clear hA
      go_wp2_with fail
      refine HMa.out.mono ?_
      rintro e w11 ⟨⟨P3, n3, d3, Q3, m3, e3, he, _⟩, hb11⟩
      dsimp only at he
      rw [HHB.out] at he
      subst he
      have hA12 := (Below.refl w11.heap.size w11).alloc (Nat.le_refl _) (.cells #[.string hb, .slice P3 n3 d3, .slice Q3 m3 e3] 34)
      have h12 := bt HA.out (bt hb11 hA12)
      have HB12 := Lib.hid (bt HB.out h12)
      have HS12 := Lib.hid (HS.out.on h12)
      have q1 := (HKC.out _ h12 ⟨F, 0, none⟩ (by show F < _; omega) hFG).trans X010.out
      have y3 := new_cell4 w11 #[.string hb, .slice P3 n3 d3, .slice Q3 m3 e3] 34 0
      simp only [List.getElem?_toArray, List.getElem?_cons_zero] at y3
      have Y3 := Lib.hid y3
      have HF12 : Hid (w11.heap.size < (w11.alloc (.cells #[.string hb, .slice P3 n3 d3, .slice Q3 m3 e3] 34)).heap.size) := by show _ < _; simp
      have H12 := Lib.hid h12
      have HMb := Lib.hid (HMA.out v4 _ HS12.out.tr HB12.out)
      clear hA12 y3 h12 hb11 q0
      go_upto_region 17 with fail
      generalize w11.alloc (.cells #[.string hb, .slice P3 n3 d3, .slice Q3 m3 e3] 34) = w12 at *
      generalize w11.heap.size = M3 at *
      go_wp2_with fail
      refine HMb.out.mono ?_
      rintro e w13 ⟨⟨P4, n4, d4, Q4, m4, e4, he, _⟩, hb13⟩
      rw [HTB.out] at he
      subst he
      have hA14 := (Below.refl w13.heap.size w13).alloc (Nat.le_refl _) (.cells #[.string tb, .slice P4 n4 d4, .slice Q4 m4 e4] 34)
      have h1214 := bt hb13 hA14
      have h14 := bt H12.out h1214
      have HB14 := Lib.hid (bt HB.out h14)
      have HLN14 := Lib.hid (HLN.out _ v4 G A4 8 c4 (HS12.out.on h1214))
      have f0 := (HKC.out _ h14 ⟨F, 0, none⟩ (by show F < _; omega) hFG).trans X010.out
      have f1 := (HKC.out _ h14 ⟨F, 1, none⟩ (by show F < _; omega) hFG).trans X110.out
      have f2 := (HKC.out _ h14 ⟨M1, 0, none⟩ (by show M1 < _; omega) hM1).trans Y010.out
      have f3 := (HKC.out _ h14 ⟨M2, 0, none⟩ (by show M2 < _; omega) hM2).trans Z0.out
      have f4 := (h1214.cell (p := ⟨M3, 0, none⟩) HF12.out).trans Y3.out
      have f5 := new_cell4 w13 #[.string tb, .slice P4 n4 d4, .slice Q4 m4 e4] 34 0
      simp only [List.getElem?_toArray, List.getElem?_cons_zero] at f5
      have hq := HQB.out
      generalize T.ok = ok at *
      clear hA14 h1214 h14 hb13 q1 l9 l10 l7 l8 l4 hFG hM1 hM2 hsz10
      go_wp2_with fail
      refine HLN14.out.mono ?_
      rintro e w15 ⟨rfl, rfl⟩
      go_wp2_with fail
      go_ret
      exact ⟨rfl, HB14.out⟩
end Go.Proofs.YtgfjkpfjajjidaaDoor
