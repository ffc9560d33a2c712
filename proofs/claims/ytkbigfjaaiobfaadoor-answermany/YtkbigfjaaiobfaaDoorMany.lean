/- The law AnswerMany, walked. -/
import Derived.Test.YtkbigfjaaiobfaaDoorAnsRk
import Derived.Test.YtkbigfjaaiobfaaDoorLiftM
namespace Go.Proofs.YtkbigfjaaiobfaaDoor
open Go.RowKit Pl Go.Shelf

theorem add_more (a : Addr) (m j : Nat) (h : j ≠ 0) : (⟨(a.add m).block, (a.add m).off + j, none⟩ : Addr) = a.add (m + j) := by
  unfold Addr.add
  by_cases hm : m = 0
  · simp [hm, h]
  · simp [hm, Nat.add_assoc]

def encTo5 (xs : List Rv) (k : Nat) : List UInt8 := (xs.take k).flatMap fun x => encL x.r
def encFrom5 (xs : List Rv) (k : Nat) : List UInt8 := (xs.drop k).flatMap fun x => encL x.r
theorem encTo5_snoc (xs : List Rv) (k : Nat) (h : k < xs.length) : encTo5 xs (k + 1) = encTo5 xs k ++ encL (xs[k]).r := by
  unfold encTo5
  rw [List.take_add_one, List.getElem?_eq_getElem h, List.flatMap_append]
  simp only [Option.toList_some, List.flatMap_cons, List.flatMap_nil, List.append_nil]
theorem encFrom5_cons (xs : List Rv) (k : Nat) (h : k < xs.length) : encFrom5 xs k = encL (xs[k]).r ++ encFrom5 xs (k + 1) := by
  unfold encFrom5
  rw [List.drop_eq_getElem_cons h]
  simp only [List.flatMap_cons]
theorem encTo5_all (xs : List Rv) : encTo5 xs xs.length = encFrom5 xs 0 := by simp [encTo5, encFrom5]
theorem encFrom5_end (xs : List Rv) (k : Nat) (h : xs.length ≤ k) : encFrom5 xs k = [] := by
  unfold encFrom5; rw [List.drop_of_length_le h]; rfl

/-- The first so many may be. -/
def AllR (xs : List Rv) (k : Nat) : Prop := ∀ i (h : i < xs.length), i < k → rightB (xs[i]).r = true
theorem AllR.succ {xs : List Rv} {k : Nat} (h : AllR xs k) (hk : k < xs.length) (hr : rightB (xs[k]).r = true) : AllR xs (k + 1) := fun i hi hik => by
  by_cases e : i = k
  · subst e; exact hr
  · exact h i hi (by omega)
theorem AllR.len {xs : List Rv} : ∀ {k : Nat}, AllR xs k → k ≤ xs.length → (encTo5 xs k).length ≤ k * 10000
  | 0, _, _ => by simp [encTo5]
  | k + 1, h, hk => by
    rw [encTo5_snoc xs k hk, List.length_append]
    have h1 := AllR.len (k := k) (fun i hi hik => h i hi (by omega)) (by omega)
    have h2 := right_len (h k (by omega) (by omega))
    omega
theorem AllR.rest {xs : List Rv} (h : AllR xs xs.length) : ∀ (n k : Nat), n = xs.length - k → (encFrom5 xs k).length ≤ n * 10000
  | 0, k, e => by rw [encFrom5_end xs k (by omega)]; simp
  | n + 1, k, e => by
    rw [encFrom5_cons xs k (by omega), List.length_append]
    have h1 := AllR.rest h n (k + 1) (by omega)
    have h2 := right_len (h k (by omega) (by omega))
    omega

theorem dec_nil (w : World) (hg : GV w) : Calls Tryd.prog 12 #[.string (mkB [])] w fun e w' => e = .returned (.tuple #[.agg #[.int .i64 0, .slice none 0 0, .string ⟨#[]⟩, .bool false], .string ⟨#[]⟩, .bool false]) ∧ Below w.heap.size w w' :=
  (dec_any (mkB []) (by decide) w hg).mono fun e w' ⟨o, fv, hd, he, _, hb⟩ => by
    have : o = none := by
      unfold DecOf at hd
      have h1 : statusL (Lib.cut (mkB []).data.toList crlf).1 = none := rfl
      rw [h1] at hd
      exact hd
    subst this
    exact ⟨he, hb⟩

/-- The cells of one response of a slice, as a walk reads them. -/
theorem rv_read {w : World} {B : Nat} {A : Option Addr} {xs : List Rv} (h : Rd w B 4 A xs.length (rvCells xs)) (k : Nat) (hk : k < xs.length) {st : Int} {fl : Nat} {bd : ByteArray} {cl b : Bool} (K : RK (xs[k]).r st fl bd cl b) :
    ∃ a : Addr, A = some a ∧ w.cell? (a.add (k * 4)) = some (.int .i64 st) ∧ w.cell? ⟨(a.add (k * 4)).block, (a.add (k * 4)).off + 1, none⟩ = some (.slice (xs[k]).A fl (xs[k]).c) ∧ w.cell? ⟨(a.add (k * 4)).block, (a.add (k * 4)).off + 2, none⟩ = some (.string bd) ∧ w.cell? ⟨(a.add (k * 4)).block, (a.add (k * 4)).off + 3, none⟩ = some (.bool cl) := by
  obtain ⟨a, e, _, hc⟩ := h.2 (by omega)
  obtain ⟨rfl, rfl, rfl, rfl, rfl⟩ := K
  have h0 : (xs[k]).cells[0]? = some (.int .i64 (xs[k]).r.st) := rfl
  have h1 : (xs[k]).cells[1]? = some (.slice (xs[k]).A (xs[k]).r.fs.length (xs[k]).c) := rfl
  have h2 : (xs[k]).cells[2]? = some (.string (xs[k]).r.body) := rfl
  have h3 : (xs[k]).cells[3]? = some (.bool (xs[k]).r.cl) := rfl
  refine ⟨a, e, ?_, ?_, ?_, ?_⟩
  · exact hc _ _ (by have := rv_at xs k hk 0 (by omega); rw [Nat.add_zero] at this; rw [this]; exact h0)
  · rw [add_more _ _ _ (by decide)]; exact hc _ _ (by rw [rv_at xs k hk 1 (by omega)]; exact h1)
  · rw [add_more _ _ _ (by decide)]; exact hc _ _ (by rw [rv_at xs k hk 2 (by omega)]; exact h2)
  · rw [add_more _ _ _ (by decide)]; exact hc _ _ (by rw [rv_at xs k hk 3 (by omega)]; exact h3)

set_option maxRecDepth 100000 in
set_option maxHeartbeats 4000000 in
theorem many_walk (xs : List Rv) (A : Option Addr) (c : Nat) (w : World) (hr : Rd w w.heap.size 4 A xs.length (rvCells xs)) (hz : ∀ x ∈ xs, Rd w w.heap.size 2 x.A x.r.fs.length (fldCells x.r.fs) ∧ ∀ f ∈ x.r.fs, f.1.size ≤ 140737488355328 ∧ f.2.size ≤ 140737488355328) (hg : GV w) :
    Calls Tryd.prog 6 #[.slice A xs.length c] w fun e w' => e = .returned (.bool true) ∧ Below w.heap.size w w' := by
  have HG := Lib.hid hg
  have HFIT := Lib.hid (fit_any w hg.toGB)
  have HR := Lib.hid hr
  have HZ := Lib.hid hz
  clear hg hr hz
  by_cases hn : xs.length ≤ 20
  · have hn2 : ¬ ((20 : Int) < (xs.length : Int)) := by omega
    go_enter Tryd.func6, Tryd.ntmps6
    go_wp2_with fail
    refine HFIT.out.mono ?_
    rintro e w1 ⟨rfl, hb1⟩
    have HB1 := Lib.hid hb1
    clear hb1
    go_wp2_with fail
    go_loopw [3, 21] (fun s i wr => ∃ (k : Nat) (S : ByteArray), k ≤ xs.length ∧ s = .string S ∧ i = .int .i64 k ∧ Hid (S = mkB (encTo5 xs k)) ∧ Hid (Below w.heap.size w wr) ∧ Hid (AllR xs k)) (fun _ i _ => xs.length - (intOf i).toNat)
    case atStart => exact ⟨0, ⟨#[]⟩, by omega, rfl, rfl, rfl, HB1, fun i hi h => absurd h (by omega)⟩
    case round =>
      obtain ⟨k, S, hk, rfl, rfl, HS, HBR, HAR⟩ := hrel
      by_cases hlt : k < xs.length
      · obtain ⟨st, fl, bd, cl, b, K0, _, _, _, _⟩ := rk_of (xs[k]).r
        have KK := Lib.hid K0
        have HX0 := Lib.hid (new_rk KK.out (xs[k]).c (((HZ.out _ (List.getElem_mem hlt)).1.below HBR.out (Nat.le_refl _)).wide HBR.out.size))
        have HZ0 := Lib.hid (HZ.out _ (List.getElem_mem hlt)).2
        obtain ⟨a, rfl, c0, c1, c2, c3⟩ := rv_read ((HR.out.below HBR.out (Nat.le_refl _)).wide HBR.out.size) k hlt KK.out
        have hSl := HAR.out.len hk
        have hS2 : S.size ≤ 200000 := by rw [HS.out, mkB_size]; omega
        have hSN := encTo5_snoc xs k hlt
        have hAS := HAR.out.succ hlt
        clear K0 hSl
        generalize (xs[k]).A = AA at *
        generalize (xs[k]).c = cc at *
        have HBA : Hid (Below w.heap.size w (wr.alloc (.cells #[.int .i64 st, .slice AA fl cc, .string bd, .bool cl] 24))) := HBR.out.alloc HBR.out.size _
        cases b with
        | false =>
          clear hSN hAS
          obtain ⟨p0, p1, p2, p3⟩ := HX0.out.cs KK.out
          go_wp2_with fail
          generalize wr.heap.size = G at *
          generalize wr.alloc (.cells #[.int .i64 st, .slice AA fl cc, .string bd, .bool cl] 24) = WA at *
          refine (right_rk KK.out HX0.out HZ0.out).mono ?_
          rintro e w2 ⟨rfl, hb2⟩
          go_wp2_with fail
          go_ret
          exact ⟨rfl, bt HBA.out hb2⟩
        | true =>
          have HAS := Lib.hid (hAS KK.out.b)
          have HEN := Lib.hid (fun (w : World) (g : Nat) (h : RB w g (xs[k]).r AA cc) (hg : GB w) => enc_rk KK.out h hg)
          have hel := len_rk KK.out
          have k1 := add_str S (mkB (encL (xs[k]).r)) (by omega)
          have HSN : Hid (S ++ mkB (encL (xs[k]).r) = mkB (encTo5 xs (k + 1))) := bytes_ext (by rw [app_data, mkB_data, mkB_data, hSN, HS.out, mkB_data])
          clear hAS hSN
          generalize S ++ mkB (encL (xs[k]).r) = S2 at *
          generalize mkB (encL (xs[k]).r) = E at *
          obtain ⟨p0, p1, p2, p3⟩ := HX0.out.cs KK.out
          go_wp2_with fail
          generalize wr.heap.size = G at *
          generalize wr.alloc (.cells #[.int .i64 st, .slice AA fl cc, .string bd, .bool cl] 24) = WA at *
          refine (right_rk KK.out HX0.out HZ0.out).mono ?_
          rintro e w2 ⟨rfl, hb2⟩
          have HX2 := Lib.hid (HX0.out.on hb2)
          have HB2 := Lib.hid (bt HBA.out hb2)
          clear hb2 p0 p1 p2 p3
          obtain ⟨p0, p1, p2, p3⟩ := HX2.out.cs KK.out
          go_wp2_with fail
          refine (HEN.out w2 _ HX2.out (HG.out.on HB2.out).toGB).mono ?_
          rintro e w3 ⟨rfl, hb3⟩
          have HB3 := Lib.hid (bt HB2.out hb3)
          clear hb3 p0 p1 p2 p3
          go_wp2_with fail
          go_roundw
          case rel => exact ⟨k + 1, S2, by omega, rfl, by go_num, HSN, HB3, HAS⟩
          case measure => simp [intOf]; omega
      · obtain rfl : k = xs.length := by omega
        have HALL := Lib.hid HAR.out
        have HS0 : Hid (S = mkB (encFrom5 xs 0)) := by
          have := HS.out
          rw [encTo5_all] at this
          exact this
        clear HS HAR
        go_wp2_with fail
        go_loopw [3, 35] (fun s i wq => ∃ (j : Nat) (T : ByteArray), j ≤ xs.length ∧ s = .string T ∧ i = .int .i64 j ∧ Hid (T = mkB (encFrom5 xs j)) ∧ Hid (Below w.heap.size w wq)) (fun _ i _ => xs.length - (intOf i).toNat)
        case atStart => exact ⟨0, S, by omega, rfl, rfl, HS0, HBR⟩
        case round =>
          obtain ⟨j, T, hj, rfl, rfl, HT, HBQ⟩ := hrel
          by_cases hjl : j < xs.length
          · obtain ⟨st, fl, bd, cl, b, K0, _, _, _, _⟩ := rk_of (xs[j]).r
            obtain rfl : b = true := by rw [← K0.b]; exact HALL.out j hjl hjl
            have KK := Lib.hid K0
            have HX0 := Lib.hid (new_rk KK.out (xs[j]).c (((HZ.out _ (List.getElem_mem hjl)).1.below HBQ.out (Nat.le_refl _)).wide HBQ.out.size))
            obtain ⟨a, rfl, c0, c1, c2, c3⟩ := rv_read ((HR.out.below HBQ.out (Nat.le_refl _)).wide HBQ.out.size) j hjl KK.out
            have hrl := AllR.rest HALL.out (xs.length - j) j rfl
            have hcons := encFrom5_cons xs j hjl
            have HDEC := Lib.hid (fun (w : World) hg => dec_rk KK.out (encFrom5 xs (j + 1)) T (by rw [HT.out, mkB_data]; exact hcons) (by rw [HT.out, mkB_size]; omega) (w := w) hg)
            clear K0 hrl hcons
            generalize (xs[j]).A = AA at *
            generalize (xs[j]).c = cc at *
            have HBA : Hid (Below w.heap.size w (wr.alloc (.cells #[.int .i64 st, .slice AA fl cc, .string bd, .bool cl] 24))) := HBQ.out.alloc HBQ.out.size _
            obtain ⟨T2, hT2⟩ : ∃ T2, T2 = mkB (encFrom5 xs (j + 1)) := ⟨_, rfl⟩
            have HT2 := Lib.hid hT2
            rw [← hT2] at HDEC
            clear hT2
            go_wp2_with fail
            generalize wr.heap.size = G at *
            generalize wr.alloc (.cells #[.int .i64 st, .slice AA fl cc, .string bd, .bool cl] 24) = WA at *
            refine (HDEC.out WA (HG.out.on HBA.out)).mono ?_
            rintro e w2 ⟨A2, c2', rfl, hx2, hb2⟩
            have HAL := Lib.hid ((Below.refl _ w2).alloc (Nat.le_refl _) (.cells #[.int .i64 st, .slice A2 fl c2', .string bd, .bool cl] 24))
            have HQ2 := Lib.hid hx2
            have HX2 := Lib.hid ((HX0.out.on hb2).on HAL.out)
            have HB2 := Lib.hid (bt (bt HBA.out hb2) HAL.out)
            clear hb2 hx2
            obtain ⟨p0, p1, p2, p3⟩ := HX2.out.cs KK.out
            obtain ⟨q0, q1, q2, q3⟩ := HQ2.out.cs KK.out
            go_wp2_with fail
            generalize w2.heap.size = G2 at *
            generalize w2.alloc (.cells #[.int .i64 st, .slice A2 fl c2', .string bd, .bool cl] 24) = W2 at *
            refine (same_rk KK.out HQ2.out HX2.out).mono ?_
            rintro e w3 ⟨rfl, hb3⟩
            have HB3 := Lib.hid (bt HB2.out hb3)
            clear hb3 p0 p1 p2 p3 q0 q1 q2 q3
            go_wp2_with fail
            go_roundw
            case rel => exact ⟨j + 1, T2, by omega, rfl, by go_num, HT2, HB3⟩
            case measure => simp [intOf]; omega
          · have hTe : T = mkB [] := by rw [HT.out, encFrom5_end xs j (by omega)]
            have HDN := Lib.hid (fun w hg => dec_nil w hg)
            rw [← hTe] at HDN
            have he : T.toList.isEmpty = true := str_empty T (by rw [hTe, mkB_data])
            clear hTe HT
            go_wp2_with fail
            refine (HDN.out _ (HG.out.on HBQ.out)).mono ?_
            rintro e w2 ⟨rfl, hb2⟩
            have HB2 := Lib.hid (bt HBQ.out hb2)
            clear hb2
            go_wp2_with fail
            go_ret
            exact ⟨rfl, HB2.out.alloc HB2.out.size _⟩
  · have hn2 : (20 : Int) < (xs.length : Int) := by omega
    go_enter Tryd.func6, Tryd.ntmps6
    go_wp2_with fail
    refine HFIT.out.mono ?_
    rintro e w1 ⟨rfl, hb1⟩
    go_wp2_with fail
    go_ret
    exact ⟨rfl, hb1⟩

end Go.Proofs.YtkbigfjaaiobfaaDoor
