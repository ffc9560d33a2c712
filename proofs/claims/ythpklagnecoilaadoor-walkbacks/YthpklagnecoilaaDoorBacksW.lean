/- The walk of the law WalkBacks. -/
import Derived.Test.YthpklagnecoilaaDoorWt
namespace Go.Proofs.YthpklagnecoilaaDoor
open Go.RowKit

/-- The sign of the way back. -/
def bkC (c : UInt8) : Option UInt8 := if c = 70 then some 66 else if c = 66 then some 70 else if c = 76 then some 82 else if c = 82 then some 76 else none
def bkL : List UInt8 → Option (List UInt8)
  | [] => some []
  | c :: l => (bkL l).bind fun m => (bkC c).map fun b => m ++ [b]

theorem step_back {p q : Wk} {c b : UInt8} (h : stepW p c = some q) (hb : bkC c = some b) : stepW q b = some p := by
  obtain ⟨x, y, dx, dy⟩ := p
  unfold stepW at h
  unfold bkC at hb
  by_cases k1 : c = 70
  · rw [if_pos k1] at h hb; cases h; cases hb
    simp only [stepW]; simp
  by_cases k2 : c = 66
  · rw [if_neg k1, if_pos k2] at h hb; cases h; cases hb
    simp only [stepW]; simp
  by_cases k3 : c = 76
  · rw [if_neg k1, if_neg k2, if_pos k3] at h hb; cases h; cases hb
    simp only [stepW]; simp
  by_cases k4 : c = 82
  · rw [if_neg k1, if_neg k2, if_neg k3, if_pos k4] at h hb; cases h; cases hb
    simp only [stepW]; simp
  · rw [if_neg k1, if_neg k2, if_neg k3, if_neg k4] at h; cases h
theorem bk_step {c b : UInt8} (h : bkC c = some b) (p : Wk) : ∃ q, stepW p c = some q := by
  unfold bkC at h
  unfold stepW
  by_cases k1 : c = 70
  · exact ⟨_, if_pos k1⟩
  by_cases k2 : c = 66
  · rw [if_neg k1, if_pos k2]; exact ⟨_, rfl⟩
  by_cases k3 : c = 76
  · rw [if_neg k1, if_neg k2, if_pos k3]; exact ⟨_, rfl⟩
  by_cases k4 : c = 82
  · rw [if_neg k1, if_neg k2, if_neg k3, if_pos k4]; exact ⟨_, rfl⟩
  · rw [if_neg k1, if_neg k2, if_neg k3, if_neg k4] at h; cases h
theorem go_back : ∀ (l m : List UInt8) (p : Wk), bkL l = some m → goW p (l ++ m) = some p
  | [], m, p, h => by cases h; rfl
  | c :: l, m, p, h => by
    simp only [bkL] at h
    cases hl : bkL l with
    | none => rw [hl] at h; cases h
    | some m' =>
      rw [hl] at h
      cases hc : bkC c with
      | none => rw [hc] at h; cases h
      | some b =>
        rw [hc] at h
        simp at h
        subst h
        obtain ⟨q, hq⟩ := bk_step hc p
        have ih := go_back l m' q hl
        rw [List.cons_append, ← List.append_assoc]
        simp only [goW, hq, Option.bind_some]
        rw [go_snoc, ih]
        exact step_back hq hc
theorem bkL_len : ∀ (l m : List UInt8), bkL l = some m → m.length = l.length
  | [], m, h => by cases h; rfl
  | c :: l, m, h => by
    simp only [bkL] at h
    cases hl : bkL l with
    | none => rw [hl] at h; cases h
    | some m' =>
      rw [hl] at h
      cases hc : bkC c with
      | none => rw [hc] at h; cases h
      | some b =>
        rw [hc] at h
        simp at h
        subst h
        simp [bkL_len l m' hl]
theorem walk_back {l m : List UInt8} (h : bkL l = some m) (hl : l.length ≤ 20) : walkW (l ++ m) = some newW := by
  unfold walkW
  rw [if_neg (by have := bkL_len l m h; simp; omega)]
  exact go_back l m newW h
theorem bk_drop (s : ByteArray) (k : Nat) (h : k < s.size) {m : List UInt8} (hm : bkL (s.data.toList.drop (k + 1)) = some m) {b : UInt8} (hb : bkC s[k] = some b) : bkL (s.data.toList.drop k) = some (m ++ [b]) := by
  rw [List.drop_eq_getElem_cons (by simpa using h)]
  simp only [bkL]
  rw [hm]
  show (bkC s[k]).map _ = _
  rw [hb]
  rfl
theorem new_text : mkB (txL newW) = ⟨#[48, 32, 48, 32, 49, 32, 48]⟩ := by
  have : txL newW = [48, 32, 48, 32, 49, 32, 48] := by decide +kernel
  rw [this]
  rfl

theorem app_size (a b : ByteArray) : (a ++ b).size = a.size + b.size := by simp

set_option maxRecDepth 100000 in
set_option maxHeartbeats 8000000 in
theorem backs_walk (s : ByteArray) (w : World) (hs : s.size ≤ 140737488355328) (hg : GB w) : Calls Tryd.prog 4 #[.string s] w fun e w' => e = .returned (.bool true) ∧ Below w.heap.size w w' := by
  have hst := st_cx
  have HF := Lib.hid (fit_any w hg)
  have HG := Lib.hid hg
  clear hg
  by_cases h20 : 20 < s.size
  · have h1 : (20 : Int) < (s.size : Int) := by omega
    go_enter Tryd.func4, Tryd.ntmps4
    go_wp2_with fail
    refine HF.out.mono ?_
    rintro e w1 ⟨rfl, hb1⟩
    go_wp2_with fail
    go_ret
    exact ⟨rfl, hb1⟩
  · have h1 : ¬ (20 : Int) < (s.size : Int) := by omega
    have h20 : s.size ≤ 20 := by omega
    go_enter Tryd.func4, Tryd.ntmps4
    go_wp2_with fail
    refine HF.out.mono ?_
    rintro e w1 ⟨rfl, hb1⟩
    have HB1 := Lib.hid hb1
    clear hb1 HF
    go_wp2_with fail
    go_loopw [3, 4] (fun vt vi wr => ∃ (k : Nat) (m : List UInt8) (t : ByteArray), vt = .string t ∧ vi = .int .i64 ((k : Int) - 1) ∧ k ≤ s.size ∧ t.size = s.size + (s.size - k) ∧ Hid (t = s ++ mkB m) ∧ Hid (bkL (s.data.toList.drop k) = some m) ∧ w1 = wr) (fun _ vi _ => (intOf vi + 1).toNat)
    case atStart => exact ⟨s.size, [], s, rfl, rfl, by omega, by omega, bytes_ext (by simp [mkB]), by show bkL _ = _; rw [List.drop_of_length_le (by simp)]; rfl, rfl⟩
    case round =>
      obtain ⟨k, m, t, rfl, rfl, hk, hts, HT, HM, hw⟩ := hrel
      subst hw
      by_cases hks : 0 < k
      · obtain ⟨j, rfl⟩ : ∃ j, k = j + 1 := ⟨k - 1, by omega⟩
        have e1 : ((j + 1 : Nat) : Int) - 1 = (j : Int) := by omega
        rw [e1]
        have hj : j < s.size := by omega
        have HN := Lib.hid (fun b => bk_drop s j hj HM.out (b := b))
        have hne : ∀ u : UInt8, s[j] ≠ u → ¬ ((s[j].toNat : Nat) : Int) = ((u.toNat : Nat) : Int) := fun u h e => h (UInt8.toNat_inj.1 (by omega))
        have hj' : (j : Int) < (s.size : Int) := by omega
        have HTS := Lib.hid hts
        clear hks
        by_cases k1 : s[j] = 70
        · have HE := Lib.hid (HN.out 66 (by rw [k1]; rfl))
          have a1 := fun wx => add_str t ⟨#[66]⟩ (by show t.size + 1 ≤ _; omega) wx
          have HT2 : Hid (t ++ ⟨#[66]⟩ = s ++ mkB (m ++ [66])) := by
            rw [HT.out]
            exact bytes_ext (by simp [mkB])
          have HS2 : Hid ((t ++ ⟨#[66]⟩).size = s.size + (s.size - j)) := by
            show (t ++ _).size = _
            rw [app_size]
            show t.size + 1 = _
            omega
          generalize t ++ ⟨#[66]⟩ = t2 at *
          have kk : ((s[j].toNat : Nat) : Int) = 70 := by rw [k1]; rfl
          clear hts HN hne
          go_wp2_with fail
          exact ⟨⟨j, _, t2, rfl, rfl, by omega, HS2.out, HT2.out, HE.out, trivial⟩, by simp [intOf] <;> omega⟩
        by_cases k2 : s[j] = 66
        · have HE := Lib.hid (HN.out 70 (by rw [k2]; rfl))
          have a1 := fun wx => add_str t ⟨#[70]⟩ (by show t.size + 1 ≤ _; omega) wx
          have HT2 : Hid (t ++ ⟨#[70]⟩ = s ++ mkB (m ++ [70])) := by
            rw [HT.out]
            exact bytes_ext (by simp [mkB])
          have HS2 : Hid ((t ++ ⟨#[70]⟩).size = s.size + (s.size - j)) := by
            show (t ++ _).size = _
            rw [app_size]
            show t.size + 1 = _
            omega
          generalize t ++ ⟨#[70]⟩ = t2 at *
          have kk : ((s[j].toNat : Nat) : Int) = 66 := by rw [k2]; rfl
          clear hts HN hne k1
          go_wp2_with fail
          exact ⟨⟨j, _, t2, rfl, rfl, by omega, HS2.out, HT2.out, HE.out, trivial⟩, by simp [intOf] <;> omega⟩
        by_cases k3 : s[j] = 76
        · have HE := Lib.hid (HN.out 82 (by rw [k3]; rfl))
          have a1 := fun wx => add_str t ⟨#[82]⟩ (by show t.size + 1 ≤ _; omega) wx
          have HT2 : Hid (t ++ ⟨#[82]⟩ = s ++ mkB (m ++ [82])) := by
            rw [HT.out]
            exact bytes_ext (by simp [mkB])
          have HS2 : Hid ((t ++ ⟨#[82]⟩).size = s.size + (s.size - j)) := by
            show (t ++ _).size = _
            rw [app_size]
            show t.size + 1 = _
            omega
          generalize t ++ ⟨#[82]⟩ = t2 at *
          have kk : ((s[j].toNat : Nat) : Int) = 76 := by rw [k3]; rfl
          clear hts HN hne k1 k2
          go_wp2_with fail
          exact ⟨⟨j, _, t2, rfl, rfl, by omega, HS2.out, HT2.out, HE.out, trivial⟩, by simp [intOf] <;> omega⟩
        by_cases k4 : s[j] = 82
        · have HE := Lib.hid (HN.out 76 (by rw [k4]; rfl))
          have a1 := fun wx => add_str t ⟨#[76]⟩ (by show t.size + 1 ≤ _; omega) wx
          have HT2 : Hid (t ++ ⟨#[76]⟩ = s ++ mkB (m ++ [76])) := by
            rw [HT.out]
            exact bytes_ext (by simp [mkB])
          have HS2 : Hid ((t ++ ⟨#[76]⟩).size = s.size + (s.size - j)) := by
            show (t ++ _).size = _
            rw [app_size]
            show t.size + 1 = _
            omega
          generalize t ++ ⟨#[76]⟩ = t2 at *
          have kk : ((s[j].toNat : Nat) : Int) = 82 := by rw [k4]; rfl
          clear hts HN hne k1 k2 k3
          go_wp2_with fail
          exact ⟨⟨j, _, t2, rfl, rfl, by omega, HS2.out, HT2.out, HE.out, trivial⟩, by simp [intOf] <;> omega⟩
        have n1 : ¬ ((s[j].toNat : Nat) : Int) = 70 := hne 70 k1
        have n2 : ¬ ((s[j].toNat : Nat) : Int) = 66 := hne 66 k2
        have n3 : ¬ ((s[j].toNat : Nat) : Int) = 76 := hne 76 k3
        have n4 : ¬ ((s[j].toNat : Nat) : Int) = 82 := hne 82 k4
        clear HN hne k1 k2 k3 k4 hts
        go_wp2_with fail
        go_ret
        exact ⟨rfl, HB1.out⟩
      · have hk0 : k = 0 := by omega
        subst hk0
        have hm : walkW t.data.toList = some newW := by
          have h := HM.out
          rw [List.drop_zero] at h
          have := walk_back h (by simpa using h20)
          rw [HT.out]
          simpa [mkB] using this
        have HX := Lib.hid (walk_any t w1)
        rw [hm] at HX
        simp only [Option.isSome_some, Option.getD_some] at HX
        clear hm HM HT hts hks
        go_wp2_with fail
        refine HX.out.mono ?_
        rintro e w3 ⟨a, b, c, d, rfl, hr, hb3⟩
        have q := fun wx => eq_wk hr rw_new wx
        simp only [decide_true] at q
        have hb4 := hb3.alloc hb3.size (.cells #[.complex .f64 a b, .complex .f64 c d] 26)
        have HK := Lib.hid (bk_new w3 (.complex .f64 a b) (.complex .f64 c d))
        have HB4 := Lib.hid (bt HB1.out hb4)
        have HGX := Lib.hid (HG.out.on HB4.out)
        have HTX := Lib.hid (fun wx (h : GB wx) => text_any a b c d _ hr wx h)
        rw [new_text] at HTX
        have HNX := Lib.hid new_any
        unfold wkV at HNX
        clear hb3 hb4 hr HX
        generalize hw4 : w3.alloc (.cells #[.complex .f64 a b, .complex .f64 c d] 26) = w4 at *
        have HL := Lib.hid HK.out.lt
        have HCD : Hid (∀ wx, Below w4.heap.size w4 wx → wx.cell? ⟨w3.heap.size, 0, none⟩ = some (.complex .f64 a b) ∧ wx.cell? ⟨w3.heap.size, 1, none⟩ = some (.complex .f64 c d)) := fun wx hb => ⟨(HK.out.on hb HL.out).c0, (HK.out.on hb HL.out).c1⟩
        have HD := Lib.hid (Below.refl w4.heap.size w4).drew
        have x0 := HK.out.c0
        have x1 := HK.out.c1
        go_wp2_with fail
        go_region_held3 (fun W => W.cell? ⟨w3.heap.size, 0, none⟩ = some (.complex .f64 a b) ∧ W.cell? ⟨w3.heap.size, 1, none⟩ = some (.complex .f64 c d)) (first | (exact HCD.out _ HD.out) | (exact HCD.out _ hc5) | (exact HCD.out _ hc6)) ((first
          | (go_at_call 12; refine (HTX.out _ (HGX.out.on hc5)).mono ?_; rintro e w6 ⟨rfl, hb6⟩
             have hc6 := bt hc5 hb6)
          | (go_at_call 11; refine (HNX.out _).mono ?_; rintro e w5 ⟨rfl, hb5⟩
             have hc5 := bt HD.out hb5)))
        all_goals
          have HE := Lib.hid (bt HB4.out hc6)
          go_wp2_with fail
          go_ret
          exact ⟨rfl, HE.out⟩
end Go.Proofs.YthpklagnecoilaaDoor
