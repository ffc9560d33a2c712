/- The walk of the law WalkSteps. -/
import Derived.Test.YthpklagnecoilaaDoorWt
namespace Go.Proofs.YthpklagnecoilaaDoor
open Go.RowKit

/-- A step, or none of a sign that is no step. -/
def stepT (p : Wk) (c : UInt8) : Wk := (stepW p c).getD p
theorem in_stepT {n : Nat} {p : Wk} (h : In n p) (c : UInt8) : In (n + 1) (stepT p c) := by
  unfold stepT
  cases he : stepW p c with
  | none => exact h.mono (by omega)
  | some q => exact in_step h he
def runT (l : List UInt8) : Wk := l.foldl stepT newW
theorem runT_snoc (l : List UInt8) (c : UInt8) : runT (l ++ [c]) = stepT (runT l) c := by unfold runT; rw [List.foldl_append]; rfl
theorem in_foldl : ∀ (l : List UInt8) {n : Nat} {p : Wk}, In n p → In (n + l.length) (l.foldl stepT p)
  | [], n, p, h => h
  | c :: l, n, p, h => by
    have := in_foldl l (in_stepT h c)
    rw [List.length_cons, show n + (l.length + 1) = n + 1 + l.length by omega]
    exact this
theorem foldl_go : ∀ (l : List UInt8) {p q : Wk}, goW p l = some q → l.foldl stepT p = q
  | [], p, q, h => by cases h; rfl
  | c :: l, p, q, h => by
    simp only [goW] at h
    cases he : stepW p c with
    | none => rw [he] at h; cases h
    | some r =>
      rw [he] at h
      rw [List.foldl_cons, show stepT p c = r by unfold stepT; rw [he]; rfl]
      exact foldl_go l h

/-- What stands behind k signs: the walker, and whether all were steps. -/
structure At11 (s : ByteArray) (k : Nat) (x y dx dy : Int) (ok : Bool) : Prop where
  run : runT (s.data.toList.take k) = ⟨x, y, dx, dy⟩
  inn : In k ⟨x, y, dx, dy⟩
  ok : ok = (decide (s.size ≤ 40) && (goW newW (s.data.toList.take k)).isSome)
theorem At11.start (s : ByteArray) : At11 s 0 0 0 1 0 (decide (s.size ≤ 40)) := ⟨rfl, in_new, by simp [goW]⟩
theorem At11.next {s : ByteArray} {k : Nat} {x y dx dy : Int} {ok : Bool} (h : At11 s k x y dx dy ok) (hk : k < s.size) {q : Wk} (hq : stepT ⟨x, y, dx, dy⟩ s[k] = q) : At11 s (k + 1) q.x q.y q.dx q.dy (ok && (stepW ⟨x, y, dx, dy⟩ s[k]).isSome) := by
  obtain ⟨h1, h2, h3⟩ := h
  refine ⟨?_, ?_, ?_⟩
  · rw [take_snoc s k hk, runT_snoc, h1, hq]
  · have := in_stepT h2 s[k]
    rw [hq] at this
    exact this
  · rw [h3, go_take s k hk, Bool.and_assoc]
    cases hg : goW newW (s.data.toList.take k) with
    | none => simp
    | some r =>
      have : r = ⟨x, y, dx, dy⟩ := by rw [← h1]; exact (foldl_go _ hg).symm
      subst this
      simp
theorem At11.fin {s : ByteArray} {x y dx dy : Int} {ok : Bool} (h : At11 s s.size x y dx dy ok) : ok = (walkW s.data.toList).isSome ∧ (ok = true → (walkW s.data.toList).getD noW = ⟨x, y, dx, dy⟩) ∧ (ok = false → (walkW s.data.toList).getD noW = noW) := by
  obtain ⟨h1, h2, h3⟩ := h
  rw [take_all s s.size (Nat.le_refl _)] at h1 h3
  unfold walkW
  rw [data_len]
  by_cases hs : 40 < s.size
  · rw [if_pos hs]
    rw [h3]
    simp [Nat.not_le.2 hs]
  · rw [if_neg hs]
    cases hg : goW newW s.data.toList with
    | none => rw [h3, hg]; simp
    | some r =>
      rw [h3, hg]
      simp [Nat.not_lt.1 hs]
      rw [← h1]
      exact (foldl_go _ hg).symm

theorem add_zero_own (b j : Nat) : Addr.add ⟨b, 0, none⟩ j = ⟨b, j, none⟩ := by
  unfold Addr.add
  split
  · rename_i h; subst h; rfl
  · simp

set_option maxRecDepth 100000 in
set_option maxHeartbeats 8000000 in
theorem steps_walk (s : ByteArray) (w : World) (hs : s.size ≤ 140737488355328) (hg : GB w) : Calls Tryd.prog 3 #[.string s] w fun e w' => e = .returned (.bool true) ∧ Below w.heap.size w w' := by
  have hst := st_cx
  have HF := Lib.hid (fit_any w hg)
  have HG := Lib.hid hg
  clear hg
  by_cases h200 : 200 < s.size
  · have h1 : (200 : Int) < (s.size : Int) := by omega
    go_enter Tryd.func3, Tryd.ntmps3
    go_wp2_with fail
    refine HF.out.mono ?_
    rintro e w1 ⟨rfl, hb1⟩
    go_wp2_with fail
    go_ret
    exact ⟨rfl, hb1⟩
  · have h1 : ¬ (200 : Int) < (s.size : Int) := by omega
    have h2 : decide ((s.size : Int) ≤ 40) = decide (s.size ≤ 40) := by rw [decide_eq_decide]; omega
    have HOK := Lib.hid (At11.start s)
    generalize decide (s.size ≤ 40) = ok0 at *
    go_enter Tryd.func3, Tryd.ntmps3
    go_wp2_with fail
    refine HF.out.mono ?_
    rintro e w1 ⟨rfl, hb1⟩
    have hcv := run_bytes_of_string (P := Tryd.prog) w1 9 23 5 s Tryd.underlying9 Tryd.underlying23 Tryd.underlying5
    have hcg := grownCap_ge w1 s.size 0 5
    generalize grownCap w1 s.size 0 5 = cap at *
    have hVb : Below w1.heap.size w1 (w1.drew.alloc (.cells (bytesRow s cap) 5 ((bytesRow s cap).size, (bytesRow s cap).size + 1))) := ((Below.refl _ _).drew).alloc (Nat.le_refl _) _
    have hVn := World.news_of_block (heap_alloc_new w1.drew (.cells (bytesRow s cap) 5 ((bytesRow s cap).size, (bytesRow s cap).size + 1)))
    have HVC : Hid (∀ j (h : j < s.size), (w1.drew.alloc (.cells (bytesRow s cap) 5 ((bytesRow s cap).size, (bytesRow s cap).size + 1))).cell? ⟨w1.heap.size, j, none⟩ = some (.int .u8 ((s[j]).toNat : Int))) := fun j h => by
      have := hVn j (.int .u8 ((s[j]).toNat : Int)) (by rw [Array.getElem?_toList]; exact bytesRow_at s cap j h)
      rw [add_zero_own] at this
      exact this
    have HVB := Lib.hid (bt hb1 hVb)
    clear hVb hVn hb1 hcg
    generalize w1.drew.alloc (.cells (bytesRow s cap) 5 ((bytesRow s cap).size, (bytesRow s cap).size + 1)) = V at *
    go_wp2_with fail
    generalize w1.heap.size = B at *
    go_loopw [3, 4, 5, 6, 7, 23] (fun vx vy vdx vdy vok vi wr => ∃ (k : Nat) (x y dx dy : Int) (ok : Bool), vx = .int .i64 x ∧ vy = .int .i64 y ∧ vdx = .int .i64 dx ∧ vdy = .int .i64 dy ∧ vok = .bool ok ∧ vi = .int .i64 k ∧ k ≤ s.size ∧ Hid (At11 s k x y dx dy ok) ∧ V = wr) (fun _ _ _ _ _ vi _ => s.size - (intOf vi).toNat)
    case atStart => exact ⟨0, 0, 0, 1, 0, ok0, rfl, rfl, rfl, rfl, rfl, rfl, by omega, HOK.out, rfl⟩
    case round =>
      obtain ⟨k, x, y, dx, dy, ok, rfl, rfl, rfl, rfl, rfl, rfl, hk, HA, hV⟩ := hrel
      subst hV
      by_cases hks : k < s.size
      · have hc := HVC.out k hks
        have hi := HA.out.inn
        have i0 := hi.x0; have i1 := hi.x1; have i2 := hi.y0; have i3 := hi.y1
        have hw := hi.way
        simp only at i0 i1 i2 i3 hw
        have j1 : -1 ≤ dx ∧ dx ≤ 1 ∧ -1 ≤ dy ∧ dy ≤ 1 := by unfold Unit4 at hw; omega
        obtain ⟨j1, j2, j3, j4⟩ := j1
        have HN := Lib.hid (fun q => HA.out.next hks (q := q))
        clear hw hi HVC HA
        unfold stepT stepW at HN
        have hne : ∀ u : UInt8, s[k] ≠ u → ¬ ((s[k].toNat : Nat) : Int) = ((u.toNat : Nat) : Int) := fun u h e => h (UInt8.toNat_inj.1 (by omega))
        by_cases k1 : s[k] = 70
        · rw [k1] at hc
          rw [if_pos k1] at HN
          have HE := Lib.hid (HN.out _ rfl)
          simp only [Option.getD_some, Option.isSome_some, Bool.and_true] at HE
          clear HN hne
          go_wp2_with fail
          exact ⟨⟨k + 1, _, _, _, _, _, rfl, rfl, rfl, rfl, rfl, rfl, by omega, HE.out, trivial⟩, by simp [intOf]; omega⟩
        by_cases k2 : s[k] = 66
        · rw [k2] at hc
          rw [if_neg k1] at HN
          rw [if_pos k2] at HN
          have HE := Lib.hid (HN.out _ rfl)
          simp only [Option.getD_some, Option.isSome_some, Bool.and_true] at HE
          clear HN hne k1
          go_wp2_with fail
          exact ⟨⟨k + 1, _, _, _, _, _, rfl, rfl, rfl, rfl, rfl, rfl, by omega, HE.out, trivial⟩, by simp [intOf]; omega⟩
        by_cases k3 : s[k] = 76
        · rw [k3] at hc
          rw [if_neg k1] at HN
          rw [if_neg k2] at HN
          rw [if_pos k3] at HN
          have HE := Lib.hid (HN.out _ rfl)
          simp only [Option.getD_some, Option.isSome_some, Bool.and_true] at HE
          clear HN hne k1 k2
          go_wp2_with fail
          exact ⟨⟨k + 1, _, _, _, _, _, rfl, rfl, rfl, rfl, rfl, rfl, by omega, HE.out, trivial⟩, by simp [intOf]; omega⟩
        by_cases k4 : s[k] = 82
        · rw [k4] at hc
          rw [if_neg k1] at HN
          rw [if_neg k2] at HN
          rw [if_neg k3] at HN
          rw [if_pos k4] at HN
          have HE := Lib.hid (HN.out _ rfl)
          simp only [Option.getD_some, Option.isSome_some, Bool.and_true] at HE
          clear HN hne k1 k2 k3
          go_wp2_with fail
          exact ⟨⟨k + 1, _, _, _, _, _, rfl, rfl, rfl, rfl, rfl, rfl, by omega, HE.out, trivial⟩, by simp [intOf]; omega⟩
        rw [if_neg k1, if_neg k2, if_neg k3, if_neg k4] at HN
        have HE := Lib.hid (HN.out _ rfl)
        simp only [Option.getD_none, Option.isSome_none, Bool.and_false] at HE
        have n1 : ¬ ((s[k].toNat : Nat) : Int) = 70 := hne 70 k1
        have n2 : ¬ ((s[k].toNat : Nat) : Int) = 66 := hne 66 k2
        have n3 : ¬ ((s[k].toNat : Nat) : Int) = 76 := hne 76 k3
        have n4 : ¬ ((s[k].toNat : Nat) : Int) = 82 := hne 82 k4
        generalize s[k] = b at *
        clear HN hne k1 k2 k3 k4
        go_wp2_with fail
        exact ⟨⟨k + 1, _, _, _, _, _, rfl, rfl, rfl, rfl, rfl, rfl, by omega, HE.out, trivial⟩, by simp [intOf]; omega⟩
      · have hke : k = s.size := by omega
        subst hke
        have hi := HA.out.inn
        have i0 := hi.x0; have i1 := hi.x1; have i2 := hi.y0; have i3 := hi.y1
        have hw := hi.way
        simp only at i0 i1 i2 i3 hw
        have j1 : -1 ≤ dx ∧ dx ≤ 1 ∧ -1 ≤ dy ∧ dy ≤ 1 := by unfold Unit4 at hw; omega
        obtain ⟨j1, j2, j3, j4⟩ := j1
        have HX := Lib.hid (walk_any s V)
        obtain ⟨hf1, hf2, hf3⟩ := HA.out.fin
        rw [← hf1] at HX
        cases ok with
        | true =>
          have hin : In 40 ⟨x, y, dx, dy⟩ := by
            cases hq : walkW s.data.toList with
            | none => rw [hq] at hf1; cases hf1
            | some q =>
              have := (in_walk hq).1
              rw [hq] at hf2
              rw [← hf2 rfl]
              exact this
          rw [hf2 rfl] at HX
          clear hf1 hf2 hf3 HA hi hw i0 i1 i2 i3
          go_wp2_with fail
          refine HX.out.mono ?_
          rintro e w3 ⟨a, b, c, d, rfl, hr, hb3⟩
          have q1 : (FloatKind.f64.format.order a (floatOfInt .f64 x) == some .eq) = true := by rw [ord_rp hr.x (rp_conv x (by have := hin.x0; simp only at this; omega) (by have := hin.x1; simp only at this; omega))]; simp
          have q2 : (FloatKind.f64.format.order b (floatOfInt .f64 y) == some .eq) = true := by rw [ord_rp hr.y (rp_conv y (by have := hin.y0; simp only at this; omega) (by have := hin.y1; simp only at this; omega))]; simp
          have q3 : (FloatKind.f64.format.order c (floatOfInt .f64 dx) == some .eq) = true := by rw [ord_rp hr.dx (rp_conv dx (by omega) (by omega))]; simp
          have q4 : (FloatKind.f64.format.order d (floatOfInt .f64 dy) == some .eq) = true := by rw [ord_rp hr.dy (rp_conv dy (by omega) (by omega))]; simp
          have HE := Lib.hid (bt HVB.out (hb3.alloc hb3.size (.cells #[.complex .f64 a b, .complex .f64 c d] 26)))
          clear hb3 hr hin
          go_wp2_with fail
          go_ret
          exact ⟨rfl, HE.out⟩
        | false =>
          rw [hf3 rfl] at HX
          clear hf1 hf2 hf3 HA hi hw
          go_wp2_with fail
          refine HX.out.mono ?_
          rintro e w3 ⟨a, b, c, d, rfl, hr, hb3⟩
          have q := fun wx => eq_wk hr rw_no wx
          simp only [decide_true] at q
          have HE := Lib.hid (bt HVB.out (hb3.alloc hb3.size (.cells #[.complex .f64 a b, .complex .f64 c d] 26)))
          clear hb3 hr
          go_wp2_with fail
          go_ret
          exact ⟨rfl, HE.out⟩
end Go.Proofs.YthpklagnecoilaaDoor
