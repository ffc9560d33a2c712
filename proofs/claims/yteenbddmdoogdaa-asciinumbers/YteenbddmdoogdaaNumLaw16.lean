/- The walk of the law AsciiNumbers at base 16. -/
import Derived.Test.YteenbddmdoogdaaNumLaw0
namespace Go.Proofs.Yteenbddmdoogdaa
open Go.RowKit Pl

set_option maxHeartbeats 8000000 in
set_option maxRecDepth 100000 in
theorem numbers16_walk (s : ByteArray) (w : World) (hs : s.size ≤ 1000) : Calls Try.prog 4 #[.string s, .bool true] w fun e w' => e = .returned (.bool true) ∧ Below w.heap.size w w' := by
  have hcv := fun w s => run_bytes_of_string (P := Try.prog) w 9 24 5 s Try.underlying9 Try.underlying24 Try.underlying5
  go_enter Try.func4, Try.ntmps4
  go_wp2_with fail
  refine (fit_any _).mono ?_
  rintro e w1 ⟨rfl, hb1⟩
  go_wp2_with fail
  refine (light_yes _ _ hs).mono ?_
  rintro e w2 ⟨rfl, rfl⟩
  go_wp2_with fail
  have hbW := bsW_below w1 s (grownCap w1 s.size 0 5)
  have hcW := bsW_cell w1 s (grownCap w1 s.size 0 5)
  generalize hG : (w1.alloc (Obj.cells (bytesRow s (grownCap w1 s.size 0 5)) 5 ((bytesRow s (grownCap w1 s.size 0 5)).size, (bytesRow s (grownCap w1 s.size 0 5)).size + 1))).drew = W
  rw [bsW, hG] at hbW hcW
  clear hG hcv
  have HcW := Lib.hid hcW
  clear hcW
  generalize grownCap w1 s.size 0 5 = cp at *
  have h00 := nr_start 16 s
  generalize (!s.toList.isEmpty) = ne at *
  have HOK := Lib.hid h00
  clear h00
  go_loop [6, 7, 24] (fun ok x i => ∃ (k : Nat) (q : Bool) (n : Int), k ≤ s.size ∧ i = .int .i64 k ∧ ok = .bool q ∧ x = .int .i64 n ∧ 0 ≤ n ∧ n ≤ 1073741824 ∧ Hid (NR 16 s k q n)) (fun _ _ i => s.size - (intOf i).toNat)
  case atStart => exact ⟨0, ne, 0, by omega, rfl, rfl, rfl, by omega, by omega, HOK⟩
  case round =>
    obtain ⟨k, q, n, hk, rfl, rfl, rfl, hn0, hn1, hr⟩ := hrel
    by_cases hlt : k < s.size
    · have hcell := HcW.out k hlt
      have hgo := fun (d : Int) (hd : digN (s[k]'hlt).toNat = d) (hx : ¬ 1073741824 < n * 16 + d) (ok' : Bool) (hok : ok' = (q && decide (d < 16))) (x' : Int) (hx' : x' = n * 16 + d) => nr_go (.inr rfl) hr.out hlt hd hx hok hx'
      have hov := fun (d : Int) (hd : digN (s[k]'hlt).toNat = d) (hx : 1073741824 < n * 16 + d) => nr_over (.inr rfl) hr.out hlt hd hx
      have hc256 : (s[k]'hlt).toNat < 256 := UInt8.toNat_lt _
      generalize (s[k]'hlt).toNat = c at *
      have HGO := Lib.hid hgo
      have HOV := Lib.hid hov
      clear hgo hov
      rcases digN_cases c with ⟨hd, h⟩ | ⟨hd, h⟩ | ⟨hd, h⟩ | ⟨hd, h⟩ | ⟨hd, h⟩ | ⟨hd, h⟩ | ⟨hd, h⟩
      all_goals
        have HG := Lib.hid (HGO.out _ hd.out)
        have HO := Lib.hid (HOV.out _ hd.out)
        clear HGO HOV
        cases q with
        | true =>
          go_wp2
          all_goals
            go_round
            case rel => first | exact ⟨k + 1, _, _, by omega, by go_num, rfl, rfl, by omega, by omega, HG.out (by omega) _ (by first | rfl | (simp; omega)) _ (by first | rfl | omega)⟩ | exact ⟨k + 1, _, _, by omega, by go_num, rfl, rfl, by omega, by omega, HO.out (by omega)⟩
            case measure => simp [intOf]; omega
        | false =>
          go_wp2
          all_goals
            go_round
            case rel => first | exact ⟨k + 1, _, _, by omega, by go_num, rfl, rfl, by omega, by omega, HG.out (by omega) _ (by first | rfl | (simp; omega)) _ (by first | rfl | omega)⟩ | exact ⟨k + 1, _, _, by omega, by go_num, rfl, rfl, by omega, by omega, HO.out (by omega)⟩
            case measure => simp [intOf]; omega
    · have hend := nr_end hr.out (by omega)
      have hcall := fun w => num16_any s w
      rw [hend] at hcall
      clear hend
      cases q with
      | true =>
        have HC : Hid (∀ w, Calls Try.prog 13 #[.string s, .int .i64 16] w fun e w' => e = .returned (.tuple #[.int .i64 n, .bool true]) ∧ Below w.heap.size w w') := hcall
        clear hcall
        have hnn : (n == n) = true := by simp
        go_wp2_with fail
        refine (HC.out _).mono ?_
        rintro e w4 ⟨rfl, hb4⟩
        go_wp2
        go_ret
        exact ⟨rfl, bt (bt hb1 hbW) hb4⟩
      | false =>
        have HC : Hid (∀ w, Calls Try.prog 13 #[.string s, .int .i64 16] w fun e w' => e = .returned (.tuple #[.int .i64 0, .bool false]) ∧ Below w.heap.size w w') := hcall
        clear hcall
        go_wp2_with fail
        refine (HC.out _).mono ?_
        rintro e w4 ⟨rfl, hb4⟩
        go_wp2
        go_ret
        exact ⟨rfl, bt (bt hb1 hbW) hb4⟩

end Go.Proofs.Yteenbddmdoogdaa
