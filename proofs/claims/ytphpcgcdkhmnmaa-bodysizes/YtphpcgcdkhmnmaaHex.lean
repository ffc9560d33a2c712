/- The contract of the laws' own helper hex, below 4096. -/
import Derived.Test.YtphpcgcdkhmnmaaBits
import Derived.Test.YtphpcgcdkhmnmaaSizePlain
namespace Go.Proofs.Ytphpcgcdkhmnmaa
open Go.RowKit Pl

def hexD : ByteArray := ⟨#[48, 49, 50, 51, 52, 53, 54, 55, 56, 57, 65, 66, 67, 68, 69, 70]⟩
theorem hexD_at : ∀ n : Fin 16, hexD.extract n.1 (n.1 + 1) = ⟨#[dig16 n.1]⟩ := by decide +kernel

theorem hex_one (n : Nat) (hn : n < 16) (w : World) : Calls Try.prog 13 #[.int .i64 (n : Int)] w fun e w' => e = .returned (.string ⟨#[dig16 n]⟩) ∧ w = w' := by
  have HX := Lib.hid (hexD_at ⟨n, hn⟩)
  have c1 : (0 : Int) ≤ ↑n := by omega
  have c2 : (↑n : Int) ≤ ↑n + 1 := by omega
  have c3 : (↑n : Int) + 1 ≤ 16 := by omega
  go_enter Try.func13, Try.ntmps13
  go_wp2
  go_ret
  exact ⟨by rw [← HX.out]; rfl, rfl⟩

theorem app_mk (a b : List UInt8) : (⟨a.toArray⟩ : ByteArray) ++ ⟨b.toArray⟩ = ⟨(a ++ b).toArray⟩ := by
  apply ByteArray.ext
  simp

set_option maxHeartbeats 1000000 in
/-- Two halves. -/
theorem hex_parts (n : Nat) (h16 : 16 ≤ n) (hn : n < 4096) (x y : ByteArray) (hx : x.size ≤ 10) (hy : y.size ≤ 10) (h1 : ∀ w, Calls Try.prog 13 #[.int .i64 ((n / 16 : Nat) : Int)] w fun e w' => e = .returned (.string x) ∧ w = w') (h2 : ∀ w, Calls Try.prog 13 #[.int .i64 ((n % 16 : Nat) : Int)] w fun e w' => e = .returned (.string y) ∧ w = w') (w : World) :
    Calls Try.prog 13 #[.int .i64 (n : Int)] w fun e w' => e = .returned (.string (x ++ y)) ∧ w = w' := by
  have H1 := Lib.hid h1
  have H2 := Lib.hid h2
  have e1 : (n : Int).tdiv 16 = ((n / 16 : Nat) : Int) := by rw [Int.tdiv_eq_ediv_of_nonneg (by omega)]; omega
  have e2 : (n : Int).tmod 16 = ((n % 16 : Nat) : Int) := by rw [Int.tmod_eq_emod_of_nonneg (by omega)]; omega
  have ha : n / 16 < 4096 := by omega
  have hb : n % 16 < 4096 := by omega
  generalize n / 16 = a at *
  generalize n % 16 = b at *
  clear h1 h2
  have ht : ((n : Int) < 16) = False := by simp; omega
  go_enter Try.func13, Try.ntmps13
  go_wp2_with fail
  refine (H1.out _).mono ?_
  rintro e w1 ⟨rfl, rfl⟩
  go_wp2_with fail
  refine (H2.out _).mono ?_
  rintro e w1 ⟨rfl, rfl⟩
  go_wp2_with fail
  go_ret
  exact ⟨rfl, rfl⟩

theorem hex_any (n : Nat) (hn : n < 1024) (w : World) : Calls Try.prog 13 #[.int .i64 (n : Int)] w fun e w' => e = .returned (.string ⟨(hexL n).toArray⟩) ∧ w = w' := by
  have two : ∀ m : Nat, 16 ≤ m → m < 256 → ∀ w, Calls Try.prog 13 #[.int .i64 (m : Int)] w fun e w' => e = .returned (.string ⟨#[dig16 (m / 16), dig16 (m % 16)]⟩) ∧ w = w' := fun m h1 h2 w => by
    have := hex_parts m h1 (by omega) _ _ (by simp [ByteArray.size]) (by simp [ByteArray.size]) (hex_one (m / 16) (by omega)) (hex_one (m % 16) (by omega)) w
    rwa [app_mk [dig16 (m / 16)] [dig16 (m % 16)]] at this
  unfold hexL
  split
  · exact hex_one n (by omega) w
  · split
    · exact two n (by omega) (by omega) w
    · have := hex_parts n (by omega) (by omega) _ _ (by simp [ByteArray.size]) (by simp [ByteArray.size]) (two (n / 16) (by omega) (by omega)) (hex_one (n % 16) (by omega)) w
      rw [app_mk [dig16 (n / 16 / 16), dig16 (n / 16 % 16)] [dig16 (n % 16)]] at this
      rwa [show n / 256 = n / 16 / 16 from by omega]

end Go.Proofs.Ytphpcgcdkhmnmaa
