/- The walk of the law WalkTexts. -/
import Derived.Test.YthpklagnecoilaaDoorWt
namespace Go.Proofs.YthpklagnecoilaaDoor
open Go.RowKit

theorem one_byte (b : UInt8) (W : World) : (convert 23 9 (.slice (some ⟨W.heap.size, 0, none⟩) 1 1)).run Tryd.prog (W.alloc (.cells #[.int .u8 (b.toNat : Int)] 5)) = .ok (.string ⟨#[b]⟩) (W.alloc (.cells #[.int .u8 (b.toNat : Int)] 5)) := by
  have := run_convert_bytes_arg (P := Tryd.prog) (W.alloc (.cells #[.int .u8 (b.toNat : Int)] 5)) 23 5 Tryd.underlying23 Tryd.underlying5 W.heap.size 0 1 1 [(b.toNat : Int)] rfl (fun i hi => by
    obtain rfl : i = 0 := by omega
    simp) 9 Tryd.underlying9
  rw [this]
  simp [strOfNums]
theorem one_byte_at (v : Int) (b : UInt8) (h : v = (b.toNat : Int)) (W : World) : (convert 23 9 (.slice (some ⟨W.heap.size, 0, none⟩) 1 1)).run Tryd.prog (W.alloc (.cells #[.int .u8 v] 5)) = .ok (.string ⟨#[b]⟩) (W.alloc (.cells #[.int .u8 v] 5)) := by
  subst h; exact one_byte b W

/-- A number's text, as the law writes it. -/
def sgL (n : Int) : Bytes := if n < 0 then [45] else []
def tenL (m : Nat) : Bytes := if 10 ≤ m then [UInt8.ofNat (48 + m / 10)] else []
def oneL (m : Nat) : Bytes := [UInt8.ofNat (48 + m % 10)]
def numL (n : Int) : Bytes := sgL n ++ tenL n.natAbs ++ oneL n.natAbs
theorem num_tab : ∀ i : Fin 91, numL ((i.val : Int) - 45) = Lib.itoa ((i.val : Int) - 45) := by decide +kernel
theorem num_itoa {n : Int} (h0 : -45 ≤ n) (h1 : n ≤ 45) : numL n = Lib.itoa n := by
  have := num_tab ⟨(n + 45).toNat, by omega⟩
  simp only at this
  rwa [show (((n + 45).toNat : Nat) : Int) - 45 = n by omega] at this
def nthW (p : Wk) : Nat → Int
  | 0 => p.x
  | 1 => p.y
  | 2 => p.dx
  | _ => p.dy
def wantL (p : Wk) : Nat → Bytes
  | 0 => []
  | k + 1 => wantL p k ++ (if 0 < k then [32] else []) ++ numL (nthW p k)
theorem want_all {p : Wk} {n : Nat} (h : In n p) (hn : n ≤ 45) : wantL p 4 = txL p := by
  obtain ⟨h1, h2, h3, h4, hw⟩ := h
  unfold Unit4 at hw
  simp only [wantL, nthW, txL, ptL]
  rw [num_itoa (n := p.x) (by omega) (by omega), num_itoa (n := p.y) (by omega) (by omega), num_itoa (n := p.dx) (by omega) (by omega), num_itoa (n := p.dy) (by omega) (by omega)]
  simp
theorem num_short (n : Int) : (numL n).length ≤ 3 := by
  unfold numL sgL tenL oneL
  split <;> split <;> simp
theorem want_short (p : Wk) : ∀ k, (wantL p k).length ≤ 4 * k
  | 0 => by simp [wantL]
  | k + 1 => by
    have h1 := want_short p k
    have h2 := num_short (nthW p k)
    simp only [wantL, List.length_append]
    split <;> simp <;> omega

theorem one_byte_two (v : Int) (b : UInt8) (h : v = (b.toNat : Int)) (W : World) (o : Obj) : (convert 23 9 (.slice (some ⟨W.heap.size + 1, 0, none⟩) 1 1)).run Tryd.prog ((W.alloc o).alloc (.cells #[.int .u8 v] 5)) = .ok (.string ⟨#[b]⟩) ((W.alloc o).alloc (.cells #[.int .u8 v] 5)) := by
  have := one_byte_at v b h (W.alloc o)
  rwa [show (W.alloc o).heap.size = W.heap.size + 1 by simp] at this
theorem add1 (l : Bytes) (x : UInt8) (h : l.length ≤ 1000) (wx : World) : (Op.stringOp .add (mkB l) ⟨#[x]⟩).run Tryd.prog wx = .ok (.string (mkB (l ++ [x]))) wx := by
  have := add_str (mkB l) ⟨#[x]⟩ (by rw [mkB_size]; show l.length + 1 ≤ _; omega) wx
  rw [this]
  have e : mkB l ++ ⟨#[x]⟩ = mkB (l ++ [x]) := mkB_app l [x]
  rw [e]
def nthN (a b c d : Nat) : Nat → Nat
  | 0 => a
  | 1 => b
  | 2 => c
  | _ => d
theorem nth_rp {a b c d : Nat} {p : Wk} (h : Rw a b c d p) : ∀ k, Rp (nthN a b c d k) (nthW p k)
  | 0 => h.x
  | 1 => h.y
  | 2 => h.dx
  | _ + 3 => h.dy

theorem walk_one {l : List UInt8} {p : Wk} (c : UInt8) (h : walkW l = some p) (hn : l.length < 40) : walkW (l ++ [c]) = stepW p c := by
  unfold walkW at h ⊢
  rw [if_neg (by omega)] at h
  rw [if_neg (by simp; omega), go_snoc, h]
  rfl

set_option maxRecDepth 100000 in
set_option maxHeartbeats 8000000 in
theorem texts_walk (s : ByteArray) (ch : UInt8) (w : World) (hs : s.size ≤ 140737488355328) (hg : GB w) : Calls Tryd.prog 5 #[.string s, .int .u8 (ch.toNat : Int)] w fun e w' => e = .returned (.bool true) ∧ Below w.heap.size w w' := by
  have hst := st_cx
  have HF := Lib.hid (fit_any w hg)
  have HGB := Lib.hid hg
  clear hg
  by_cases hs60 : 60 < s.size
  · have h1 : (60 : Int) < (s.size : Int) := by omega
    go_enter Tryd.func5, Tryd.ntmps5
    go_wp2_with fail
    refine HF.out.mono ?_
    rintro e w1 ⟨rfl, hb1⟩
    go_wp2_with fail
    go_ret
    exact ⟨rfl, hb1⟩
  have h1 : ¬ (60 : Int) < (s.size : Int) := by omega
  have s60 : s.size ≤ 60 := by omega
  have HX := Lib.hid (fun wx => walk_any s wx)
  clear hs hs60
  cases hq : walkW s.data.toList with
  | none =>
    rw [hq] at HX
    simp only [Option.isSome_none, Option.getD_none] at HX
    clear hq
    go_enter Tryd.func5, Tryd.ntmps5
    go_wp2_with fail
    refine HF.out.mono ?_
    rintro e w1 ⟨rfl, hb1⟩
    go_wp2_with fail
    refine (HX.out _).mono ?_
    rintro e w2 ⟨a, b, c, d, rfl, hr, hb2⟩
    have HB2 := Lib.hid (bt hb1 (hb2.alloc hb2.size (.cells #[.complex .f64 a b, .complex .f64 c d] 26)))
    clear hb1 hb2 hr
    go_wp2_with fail
    go_ret
    exact ⟨rfl, HB2.out⟩
  | some p =>
    rw [hq] at HX
    simp only [Option.isSome_some, Option.getD_some] at HX
    have HQ : Hid (walkW s.data.toList = some p) := hq
    have HIN := Lib.hid (in_walk hq).1
    clear hq
    go_enter Tryd.func5, Tryd.ntmps5
    go_wp2_with fail
    refine HF.out.mono ?_
    rintro e w1 ⟨rfl, hb1⟩
    have HB1 := Lib.hid hb1
    clear hb1
    go_wp2_with fail
    refine (HX.out _).mono ?_
    rintro e w2 ⟨a, b, c, d, rfl, hr, hb2⟩
    have hb3 := hb2.alloc hb2.size (.cells #[.complex .f64 a b, .complex .f64 c d] 26)
    have hk2 := bk_new w2 (.complex .f64 a b) (.complex .f64 c d)
    have HB3 := Lib.hid (bt HB1.out hb3)
    have HW := Lib.hid hr
    clear hb2 hr hb3
    generalize hw3 : w2.alloc (.cells #[.complex .f64 a b, .complex .f64 c d] 26) = w3 at *
    have HK3 := Lib.hid hk2
    have c0 := hk2.c0
    have c1 := hk2.c1
    clear hk2
    go_wp2_with fail
    clear hw3
    have hb4 := (Below.refl w3.heap.size w3).alloc (Nat.le_refl _) (.cells #[.float .f64 a, .float .f64 b, .float .f64 c, .float .f64 d] 29)
    have HFB : Hid (∀ k, k < 4 → (w3.alloc (.cells #[.float .f64 a, .float .f64 b, .float .f64 c, .float .f64 d] 29)).cell? ⟨w3.heap.size, k, none⟩ = some (.float .f64 (nthN a b c d k))) := fun k hk => by
      rw [Lib.cell_of_heap (heap_alloc_new w3 _)]
      match k, hk with
      | 0, _ => rfl
      | 1, _ => rfl
      | 2, _ => rfl
      | 3, _ => rfl
    have HFL : Hid (w3.heap.size < (w3.alloc (.cells #[.float .f64 a, .float .f64 b, .float .f64 c, .float .f64 d] 29)).heap.size) := by show _ < _; simp
    have HK4 := Lib.hid (HK3.out.on hb4 HK3.out.lt)
    have HB4 := Lib.hid (bt HB3.out hb4)
    clear hb4 HK3 HB3 c0 c1
    generalize w3.alloc (.cells #[.float .f64 a, .float .f64 b, .float .f64 c, .float .f64 d] 29) = w4 at *
    generalize w3.heap.size = B at *
    generalize w2.heap.size = G at *
    go_loopw [7, 41] (fun vt vi wr => ∃ (k : Nat) (t : ByteArray), vt = .string t ∧ vi = .int .i64 (k : Int) ∧ k ≤ 4 ∧ Hid (t = mkB (wantL p k)) ∧ Hid (Below w4.heap.size w4 wr)) (fun _ vi _ => 4 - (intOf vi).toNat)
    case atStart => exact ⟨0, ⟨#[]⟩, rfl, rfl, by omega, rfl, Below.refl _ _⟩
    case round =>
      obtain ⟨k, t, rfl, rfl, hk, HT, HB⟩ := hrel
      by_cases hk4 : k < 4
      · have hc := (HB.out.cell (p := ⟨B, k, none⟩) HFL.out).trans (HFB.out k hk4)
        have hrp := nth_rp HW.out k
        have hci := fun wx => conv_int hrp 3 (.inr rfl) wx
        have n0 := hrp.2.1
        have n1 := hrp.2.2
        have hsh := want_short p k
        have HE : Hid (wantL p (k + 1) = wantL p k ++ (if 0 < k then [32] else []) ++ numL (nthW p k)) := rfl
        have htt := HT.out
        subst htt
        have hkI : (k : Int) < 4 := by omega
        have HBE := Lib.hid (fun wx (h : Below wr.heap.size wr wx) => bt HB.out h)
        clear hrp HFB HK4 HX HF
        generalize hgl : wantL p k = l at *
        generalize nthW p k = n at *
        generalize nthN a b c d k = u at *
        clear hgl HT
        by_cases hkp : 0 < k
        · have hkp' : (0 : Int) < (k : Int) := by omega
          by_cases hng : n < 0
          · obtain ⟨m, hm⟩ : ∃ m : Nat, -n = (m : Int) := ⟨n.natAbs, by omega⟩
            have m45 : m ≤ 45 := by omega
            by_cases hten : 10 ≤ m
            · have hten' : (10 : Int) ≤ (m : Int) := by omega
              have HL : Hid (wantL p (k + 1) = ((((l ++ [32]) ++ [45]) ++ [UInt8.ofNat (48 + m / 10)]) ++ [UInt8.ofNat (48 + m % 10)])) := by
                show _ = _
                rw [HE.out]
                unfold numL sgL tenL oneL
                rw [show n.natAbs = m by omega, if_pos (show n < 0 by omega), if_pos (show 10 ≤ m by omega)]
                rw [if_pos hkp]
                simp
              have hcA := fun W => one_byte_at (48 + (m : Int) / 10) (UInt8.ofNat (48 + m / 10)) (by rw [UInt8.toNat_ofNat']; omega) W
              have hcB := fun W o => one_byte_two (48 + (m : Int) % 10) (UInt8.ofNat (48 + m % 10)) (by rw [UInt8.toNat_ofNat']; omega) W o
              have HNB : Hid (∀ x, Below wr.heap.size wr (wr.alloc x)) := fun x => (Below.refl _ _).alloc (Nat.le_refl _) x
              generalize UInt8.ofNat (48 + m / 10) = bt10 at *
              generalize UInt8.ofNat (48 + m % 10) = bo1 at *
              have e0 := fun wx => add1 (l) 32 (by omega) wx
              have e1 := fun wx => add1 (l ++ [32]) 45 (by simp; omega) wx
              have e2 := fun wx => add1 ((l ++ [32]) ++ [45]) bt10 (by simp; omega) wx
              have e3 := fun wx => add1 (((l ++ [32]) ++ [45]) ++ [bt10]) bo1 (by simp; omega) wx
              have HLL : Hid (mkB ((((l ++ [32]) ++ [45]) ++ [bt10]) ++ [bo1]) = mkB (wantL p (k + 1))) := by show _ = _; rw [HL.out]
              generalize mkB ((((l ++ [32]) ++ [45]) ++ [bt10]) ++ [bo1]) = s4 at *
              generalize mkB (((l ++ [32]) ++ [45]) ++ [bt10]) = s3' at *
              generalize mkB ((l ++ [32]) ++ [45]) = s2' at *
              generalize mkB (l ++ [32]) = s1' at *
              generalize mkB (l) = s0' at *
              clear HL HE hsh
              go_wp2_with fail
              exact ⟨⟨k + 1, s4, rfl, rfl, by omega, HLL.out, HBE.out _ ((Lib.hid ((Below.refl wr.heap.size wr).alloc (Nat.le_refl _) _)).out.alloc (by simp) _)⟩, by simp [intOf] <;> omega⟩
            · have hten' : ¬ (10 : Int) ≤ (m : Int) := by omega
              have HL : Hid (wantL p (k + 1) = (((l ++ [32]) ++ [45]) ++ [UInt8.ofNat (48 + m % 10)])) := by
                show _ = _
                rw [HE.out]
                unfold numL sgL tenL oneL
                rw [show n.natAbs = m by omega, if_pos (show n < 0 by omega), if_neg (show ¬ 10 ≤ m by omega)]
                rw [if_pos hkp]
                simp
              have hcB := fun W => one_byte_at (48 + (m : Int) % 10) (UInt8.ofNat (48 + m % 10)) (by rw [UInt8.toNat_ofNat']; omega) W
              have HNB : Hid (∀ x, Below wr.heap.size wr (wr.alloc x)) := fun x => (Below.refl _ _).alloc (Nat.le_refl _) x
              generalize UInt8.ofNat (48 + m % 10) = bo1 at *
              have e0 := fun wx => add1 (l) 32 (by omega) wx
              have e1 := fun wx => add1 (l ++ [32]) 45 (by simp; omega) wx
              have e2 := fun wx => add1 ((l ++ [32]) ++ [45]) bo1 (by simp; omega) wx
              have HLL : Hid (mkB (((l ++ [32]) ++ [45]) ++ [bo1]) = mkB (wantL p (k + 1))) := by show _ = _; rw [HL.out]
              generalize mkB (((l ++ [32]) ++ [45]) ++ [bo1]) = s3 at *
              generalize mkB ((l ++ [32]) ++ [45]) = s2' at *
              generalize mkB (l ++ [32]) = s1' at *
              generalize mkB (l) = s0' at *
              clear HL HE hsh
              go_wp2_with fail
              exact ⟨⟨k + 1, s3, rfl, rfl, by omega, HLL.out, HBE.out _ ((Below.refl wr.heap.size wr).alloc (Nat.le_refl _) _)⟩, by simp [intOf] <;> omega⟩
          · obtain ⟨m, rfl⟩ : ∃ m : Nat, n = (m : Int) := ⟨n.natAbs, by omega⟩
            have m45 : m ≤ 45 := by omega
            by_cases hten : 10 ≤ m
            · have hten' : (10 : Int) ≤ (m : Int) := by omega
              have HL : Hid (wantL p (k + 1) = (((l ++ [32]) ++ [UInt8.ofNat (48 + m / 10)]) ++ [UInt8.ofNat (48 + m % 10)])) := by
                show _ = _
                rw [HE.out]
                unfold numL sgL tenL oneL
                rw [show ((m : Nat) : Int).natAbs = m by omega, if_neg (show ¬ ((m : Nat) : Int) < 0 by omega), if_pos (show 10 ≤ m by omega)]
                rw [if_pos hkp]
                simp
              have hcA := fun W => one_byte_at (48 + (m : Int) / 10) (UInt8.ofNat (48 + m / 10)) (by rw [UInt8.toNat_ofNat']; omega) W
              have hcB := fun W o => one_byte_two (48 + (m : Int) % 10) (UInt8.ofNat (48 + m % 10)) (by rw [UInt8.toNat_ofNat']; omega) W o
              have HNB : Hid (∀ x, Below wr.heap.size wr (wr.alloc x)) := fun x => (Below.refl _ _).alloc (Nat.le_refl _) x
              generalize UInt8.ofNat (48 + m / 10) = bt10 at *
              generalize UInt8.ofNat (48 + m % 10) = bo1 at *
              have e0 := fun wx => add1 (l) 32 (by omega) wx
              have e1 := fun wx => add1 (l ++ [32]) bt10 (by simp; omega) wx
              have e2 := fun wx => add1 ((l ++ [32]) ++ [bt10]) bo1 (by simp; omega) wx
              have HLL : Hid (mkB (((l ++ [32]) ++ [bt10]) ++ [bo1]) = mkB (wantL p (k + 1))) := by show _ = _; rw [HL.out]
              generalize mkB (((l ++ [32]) ++ [bt10]) ++ [bo1]) = s3 at *
              generalize mkB ((l ++ [32]) ++ [bt10]) = s2' at *
              generalize mkB (l ++ [32]) = s1' at *
              generalize mkB (l) = s0' at *
              clear HL HE hsh
              go_wp2_with fail
              exact ⟨⟨k + 1, s3, rfl, rfl, by omega, HLL.out, HBE.out _ ((Lib.hid ((Below.refl wr.heap.size wr).alloc (Nat.le_refl _) _)).out.alloc (by simp) _)⟩, by simp [intOf] <;> omega⟩
            · have hten' : ¬ (10 : Int) ≤ (m : Int) := by omega
              have HL : Hid (wantL p (k + 1) = ((l ++ [32]) ++ [UInt8.ofNat (48 + m % 10)])) := by
                show _ = _
                rw [HE.out]
                unfold numL sgL tenL oneL
                rw [show ((m : Nat) : Int).natAbs = m by omega, if_neg (show ¬ ((m : Nat) : Int) < 0 by omega), if_neg (show ¬ 10 ≤ m by omega)]
                rw [if_pos hkp]
                simp
              have hcB := fun W => one_byte_at (48 + (m : Int) % 10) (UInt8.ofNat (48 + m % 10)) (by rw [UInt8.toNat_ofNat']; omega) W
              have HNB : Hid (∀ x, Below wr.heap.size wr (wr.alloc x)) := fun x => (Below.refl _ _).alloc (Nat.le_refl _) x
              generalize UInt8.ofNat (48 + m % 10) = bo1 at *
              have e0 := fun wx => add1 (l) 32 (by omega) wx
              have e1 := fun wx => add1 (l ++ [32]) bo1 (by simp; omega) wx
              have HLL : Hid (mkB ((l ++ [32]) ++ [bo1]) = mkB (wantL p (k + 1))) := by show _ = _; rw [HL.out]
              generalize mkB ((l ++ [32]) ++ [bo1]) = s2 at *
              generalize mkB (l ++ [32]) = s1' at *
              generalize mkB (l) = s0' at *
              clear HL HE hsh
              go_wp2_with fail
              exact ⟨⟨k + 1, s2, rfl, rfl, by omega, HLL.out, HBE.out _ ((Below.refl wr.heap.size wr).alloc (Nat.le_refl _) _)⟩, by simp [intOf] <;> omega⟩
        · have hkz : k = 0 := by omega
          subst hkz
          by_cases hng : n < 0
          · obtain ⟨m, hm⟩ : ∃ m : Nat, -n = (m : Int) := ⟨n.natAbs, by omega⟩
            have m45 : m ≤ 45 := by omega
            by_cases hten : 10 ≤ m
            · have hten' : (10 : Int) ≤ (m : Int) := by omega
              have HL : Hid (wantL p (0 + 1) = (((l ++ [45]) ++ [UInt8.ofNat (48 + m / 10)]) ++ [UInt8.ofNat (48 + m % 10)])) := by
                show _ = _
                rw [HE.out]
                unfold numL sgL tenL oneL
                rw [show n.natAbs = m by omega, if_pos (show n < 0 by omega), if_pos (show 10 ≤ m by omega)]
                rw [if_neg (show ¬ 0 < 0 by omega)]
                simp
              have hcA := fun W => one_byte_at (48 + (m : Int) / 10) (UInt8.ofNat (48 + m / 10)) (by rw [UInt8.toNat_ofNat']; omega) W
              have hcB := fun W o => one_byte_two (48 + (m : Int) % 10) (UInt8.ofNat (48 + m % 10)) (by rw [UInt8.toNat_ofNat']; omega) W o
              have HNB : Hid (∀ x, Below wr.heap.size wr (wr.alloc x)) := fun x => (Below.refl _ _).alloc (Nat.le_refl _) x
              generalize UInt8.ofNat (48 + m / 10) = bt10 at *
              generalize UInt8.ofNat (48 + m % 10) = bo1 at *
              have e0 := fun wx => add1 (l) 45 (by omega) wx
              have e1 := fun wx => add1 (l ++ [45]) bt10 (by simp; omega) wx
              have e2 := fun wx => add1 ((l ++ [45]) ++ [bt10]) bo1 (by simp; omega) wx
              have HLL : Hid (mkB (((l ++ [45]) ++ [bt10]) ++ [bo1]) = mkB (wantL p (0 + 1))) := by show _ = _; rw [HL.out]
              generalize mkB (((l ++ [45]) ++ [bt10]) ++ [bo1]) = s3 at *
              generalize mkB ((l ++ [45]) ++ [bt10]) = s2' at *
              generalize mkB (l ++ [45]) = s1' at *
              generalize mkB (l) = s0' at *
              clear HL HE hsh
              go_wp2_with fail
              exact ⟨⟨0 + 1, s3, rfl, rfl, by omega, HLL.out, HBE.out _ ((Lib.hid ((Below.refl wr.heap.size wr).alloc (Nat.le_refl _) _)).out.alloc (by simp) _)⟩, by simp [intOf] <;> omega⟩
            · have hten' : ¬ (10 : Int) ≤ (m : Int) := by omega
              have HL : Hid (wantL p (0 + 1) = ((l ++ [45]) ++ [UInt8.ofNat (48 + m % 10)])) := by
                show _ = _
                rw [HE.out]
                unfold numL sgL tenL oneL
                rw [show n.natAbs = m by omega, if_pos (show n < 0 by omega), if_neg (show ¬ 10 ≤ m by omega)]
                rw [if_neg (show ¬ 0 < 0 by omega)]
                simp
              have hcB := fun W => one_byte_at (48 + (m : Int) % 10) (UInt8.ofNat (48 + m % 10)) (by rw [UInt8.toNat_ofNat']; omega) W
              have HNB : Hid (∀ x, Below wr.heap.size wr (wr.alloc x)) := fun x => (Below.refl _ _).alloc (Nat.le_refl _) x
              generalize UInt8.ofNat (48 + m % 10) = bo1 at *
              have e0 := fun wx => add1 (l) 45 (by omega) wx
              have e1 := fun wx => add1 (l ++ [45]) bo1 (by simp; omega) wx
              have HLL : Hid (mkB ((l ++ [45]) ++ [bo1]) = mkB (wantL p (0 + 1))) := by show _ = _; rw [HL.out]
              generalize mkB ((l ++ [45]) ++ [bo1]) = s2 at *
              generalize mkB (l ++ [45]) = s1' at *
              generalize mkB (l) = s0' at *
              clear HL HE hsh
              go_wp2_with fail
              exact ⟨⟨0 + 1, s2, rfl, rfl, by omega, HLL.out, HBE.out _ ((Below.refl wr.heap.size wr).alloc (Nat.le_refl _) _)⟩, by simp [intOf] <;> omega⟩
          · obtain ⟨m, rfl⟩ : ∃ m : Nat, n = (m : Int) := ⟨n.natAbs, by omega⟩
            have m45 : m ≤ 45 := by omega
            by_cases hten : 10 ≤ m
            · have hten' : (10 : Int) ≤ (m : Int) := by omega
              have HL : Hid (wantL p (0 + 1) = ((l ++ [UInt8.ofNat (48 + m / 10)]) ++ [UInt8.ofNat (48 + m % 10)])) := by
                show _ = _
                rw [HE.out]
                unfold numL sgL tenL oneL
                rw [show ((m : Nat) : Int).natAbs = m by omega, if_neg (show ¬ ((m : Nat) : Int) < 0 by omega), if_pos (show 10 ≤ m by omega)]
                rw [if_neg (show ¬ 0 < 0 by omega)]
                simp
              have hcA := fun W => one_byte_at (48 + (m : Int) / 10) (UInt8.ofNat (48 + m / 10)) (by rw [UInt8.toNat_ofNat']; omega) W
              have hcB := fun W o => one_byte_two (48 + (m : Int) % 10) (UInt8.ofNat (48 + m % 10)) (by rw [UInt8.toNat_ofNat']; omega) W o
              have HNB : Hid (∀ x, Below wr.heap.size wr (wr.alloc x)) := fun x => (Below.refl _ _).alloc (Nat.le_refl _) x
              generalize UInt8.ofNat (48 + m / 10) = bt10 at *
              generalize UInt8.ofNat (48 + m % 10) = bo1 at *
              have e0 := fun wx => add1 (l) bt10 (by omega) wx
              have e1 := fun wx => add1 (l ++ [bt10]) bo1 (by simp; omega) wx
              have HLL : Hid (mkB ((l ++ [bt10]) ++ [bo1]) = mkB (wantL p (0 + 1))) := by show _ = _; rw [HL.out]
              generalize mkB ((l ++ [bt10]) ++ [bo1]) = s2 at *
              generalize mkB (l ++ [bt10]) = s1' at *
              generalize mkB (l) = s0' at *
              clear HL HE hsh
              go_wp2_with fail
              exact ⟨⟨0 + 1, s2, rfl, rfl, by omega, HLL.out, HBE.out _ ((Lib.hid ((Below.refl wr.heap.size wr).alloc (Nat.le_refl _) _)).out.alloc (by simp) _)⟩, by simp [intOf] <;> omega⟩
            · have hten' : ¬ (10 : Int) ≤ (m : Int) := by omega
              have HL : Hid (wantL p (0 + 1) = (l ++ [UInt8.ofNat (48 + m % 10)])) := by
                show _ = _
                rw [HE.out]
                unfold numL sgL tenL oneL
                rw [show ((m : Nat) : Int).natAbs = m by omega, if_neg (show ¬ ((m : Nat) : Int) < 0 by omega), if_neg (show ¬ 10 ≤ m by omega)]
                rw [if_neg (show ¬ 0 < 0 by omega)]
                simp
              have hcB := fun W => one_byte_at (48 + (m : Int) % 10) (UInt8.ofNat (48 + m % 10)) (by rw [UInt8.toNat_ofNat']; omega) W
              have HNB : Hid (∀ x, Below wr.heap.size wr (wr.alloc x)) := fun x => (Below.refl _ _).alloc (Nat.le_refl _) x
              generalize UInt8.ofNat (48 + m % 10) = bo1 at *
              have e0 := fun wx => add1 (l) bo1 (by omega) wx
              have HLL : Hid (mkB (l ++ [bo1]) = mkB (wantL p (0 + 1))) := by show _ = _; rw [HL.out]
              generalize mkB (l ++ [bo1]) = s1 at *
              generalize mkB (l) = s0' at *
              clear HL HE hsh
              go_wp2_with fail
              exact ⟨⟨0 + 1, s1, rfl, rfl, by omega, HLL.out, HBE.out _ ((Below.refl wr.heap.size wr).alloc (Nat.le_refl _) _)⟩, by simp [intOf] <;> omega⟩
      · have hk44 : k = 4 := by omega
        subst hk44
        have HTX : Hid (t = mkB (txL p)) := by
          have h := HT.out
          rw [want_all HIN.out (by omega)] at h
          exact h
        have htt := HTX.out
        subst htt
        have HL40 : Hid (s.size ≤ 40) := by
          show _ ≤ _
          have h := HQ.out
          unfold walkW at h
          split at h
          · cases h
          · rename_i h'; rw [data_len] at h'; omega
        have HS := Lib.hid (fun wx => step_any HW.out HIN.out (by omega) ch wx)
        have HW1 := Lib.hid (fun (h : s.data.toList.length < 40) => walk_one ch HQ.out h)
        rw [data_len] at HW1
        have HBW := Lib.hid (bt HB4.out HB.out)
        have hkr := HK4.out.on HB.out HK4.out.lt
        have c0 := hkr.c0
        have c1 := hkr.c1
        have HKR := Lib.hid hkr
        have HXY := Lib.hid (fun wx => walk_any (s ++ ⟨#[ch]⟩) wx)
        have HTT := Lib.hid (fun wx (h : GB wx) => text_any a b c d p HW.out wx h)
        have esum := fun wx => add_str s ⟨#[ch]⟩ (by show s.size + 1 ≤ _; omega) wx
        have hdat : (s ++ ⟨#[ch]⟩ : ByteArray).data.toList = s.data.toList ++ [ch] := by simp
        rw [hdat] at HXY
        generalize s ++ ⟨#[ch]⟩ = sc at *
        generalize txL p = tx at *
        clear hkr HT HX HF HB HK4 HFB HFL hdat HB4
        go_wp2_with fail
        refine (HS.out _).mono ?_
        rintro e w6 ⟨a1, b1, c1', d1, rfl, hr1, hb6⟩
        have hb7 := hb6.alloc hb6.size (.cells #[.complex .f64 a1 b1, .complex .f64 c1' d1] 26)
        have HK7 := Lib.hid (bk_new w6 (.complex .f64 a1 b1) (.complex .f64 c1' d1))
        have HKR7 := Lib.hid (HKR.out.on hb7 HKR.out.lt)
        have HB7 := Lib.hid (bt HBW.out hb7)
        have HR1 := Lib.hid hr1
        clear hb6 hb7 hr1 HKR HBW c0 c1 HS
        generalize hw7 : w6.alloc (.cells #[.complex .f64 a1 b1, .complex .f64 c1' d1] 26) = w7 at *
        have hcB := fun W => one_byte_at (ch.toNat : Int) ch rfl W
        go_wp2_with fail
        have HBA : Hid (Below w7.heap.size w7 (w7.alloc (.cells #[.int .u8 (ch.toNat : Int)] 5))) := (Below.refl _ _).alloc (Nat.le_refl _) _
        by_cases h40 : s.size = 40
        · have h40' : (s.size : Int) = 40 := by omega
          refine (HXY.out _).mono ?_
          rintro e w8 ⟨a2, b2, c2', d2, rfl, hr2, hb8⟩
          have hbc := (bt HBA.out hb8)
          have hb9 := hbc.alloc hbc.size (.cells #[.complex .f64 a2 b2, .complex .f64 c2' d2] 26)
          have HK9 := Lib.hid (bk_new w8 (.complex .f64 a2 b2) (.complex .f64 c2' d2))
          have HK79 := Lib.hid (HK7.out.on hb9 HK7.out.lt)
          have HKR9 := Lib.hid (HKR7.out.on hb9 HKR7.out.lt)
          have HB9 := Lib.hid (bt HB7.out hb9)
          have HT9 := Lib.hid (HTT.out _ (HGB.out.on HB9.out))
          clear hb8 hbc hb9 hr2 HK7 HKR7 HB7 hcB esum
          generalize hw9 : w8.alloc (.cells #[.complex .f64 a2 b2, .complex .f64 c2' d2] 26) = w9 at *
          have r0 := HKR9.out.c0
          have r1 := HKR9.out.c1
          go_wp2_with fail
          refine HT9.out.mono ?_
          rintro e w10 ⟨rfl, hb10⟩
          have x0 := (HK79.out.on hb10 HK79.out.lt).c0
          have x1 := (HK79.out.on hb10 HK79.out.lt).c1
          have y0 := (HK9.out.on hb10 HK9.out.lt).c0
          have y1 := (HK9.out.on hb10 HK9.out.lt).c1
          have HE := Lib.hid (bt HB9.out hb10)
          clear hb10
          go_wp2_with fail
          go_ret
          exact ⟨rfl, HE.out⟩
        · have h40' : ¬ (s.size : Int) = 40 := by omega
          rw [HW1.out (by have := HL40.out; omega)] at HXY
          generalize stepW p ch = so at *
          refine (HXY.out _).mono ?_
          rintro e w8 ⟨a2, b2, c2', d2, rfl, hr2, hb8⟩
          have hbc := (bt HBA.out hb8)
          have hb9 := hbc.alloc hbc.size (.cells #[.complex .f64 a2 b2, .complex .f64 c2' d2] 26)
          have HK9 := Lib.hid (bk_new w8 (.complex .f64 a2 b2) (.complex .f64 c2' d2))
          have HK79 := Lib.hid (HK7.out.on hb9 HK7.out.lt)
          have HKR9 := Lib.hid (HKR7.out.on hb9 HKR7.out.lt)
          have HB9 := Lib.hid (bt HB7.out hb9)
          have HT9 := Lib.hid (HTT.out _ (HGB.out.on HB9.out))
          have q := fun wx => eq_wk HR1.out hr2 wx
          simp only [decide_true] at q
          clear hb8 hbc hb9 hr2 HK7 HKR7 HB7 hcB esum
          generalize hw9 : w8.alloc (.cells #[.complex .f64 a2 b2, .complex .f64 c2' d2] 26) = w9 at *
          have r0 := HKR9.out.c0
          have r1 := HKR9.out.c1
          go_wp2_with fail
          refine HT9.out.mono ?_
          rintro e w10 ⟨rfl, hb10⟩
          have x0 := (HK79.out.on hb10 HK79.out.lt).c0
          have x1 := (HK79.out.on hb10 HK79.out.lt).c1
          have y0 := (HK9.out.on hb10 HK9.out.lt).c0
          have y1 := (HK9.out.on hb10 HK9.out.lt).c1
          have HE := Lib.hid (bt HB9.out hb10)
          clear hb10
          go_wp2_with fail
          go_ret
          exact ⟨rfl, HE.out⟩

theorem texts_walk' (s : ByteArray) (n : Int) (w : World) (hs : s.size ≤ 140737488355328) (hn : (Lit.int .u8 n).wf = true) (hg : GB w) : Calls Tryd.prog 5 #[.string s, .int .u8 n] w fun e w' => e = .returned (.bool true) ∧ Below w.heap.size w w' := by
  have h : 0 ≤ n ∧ n ≤ 255 := by simpa [Lit.wf, IntKind.min, IntKind.max, IntKind.signed, IntKind.bits] using hn
  have e : n = ((UInt8.ofNat n.toNat).toNat : Int) := by rw [UInt8.toNat_ofNat']; omega
  rw [e]
  exact texts_walk s _ w hs hg
end Go.Proofs.YthpklagnecoilaaDoor
