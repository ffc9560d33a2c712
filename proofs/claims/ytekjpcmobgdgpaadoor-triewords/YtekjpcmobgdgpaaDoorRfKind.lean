/- The document's answer of layer 8: the kind of a segment that is not empty. -/
import Derived.Test.YtekjpcmobgdgpaaDoorLws
namespace Go.Proofs.YtekjpcmobgdgpaaDoor
open Go.RowKit Pl

theorem kd_hd (s : ByteArray) (h : 0 < s.size) : kd s.data.toList = if ((s[0].toNat : Int) == 58) = true then 1 else if ((s[0].toNat : Int) == 42) = true then 2 else 0 := by
  obtain ⟨⟨l⟩⟩ := s
  cases l with
  | nil => exact absurd h (by decide)
  | cons c r =>
    show (if c = 58 then 1 else if c = 42 then 2 else 0) = if ((c.toNat : Int) == 58) = true then 1 else if ((c.toNat : Int) == 42) = true then 2 else 0
    have e : ∀ k : UInt8, (((c.toNat : Int) == (k.toNat : Int)) = true) = (c = k) := fun k => by
      rw [beq_iff_eq, eq_iff_iff]
      exact ⟨fun h => UInt8.toNat_inj.1 (by omega), fun h => by rw [h]⟩
    have e1 := e 58
    have e2 := e 42
    rw [show ((58 : UInt8).toNat : Int) = 58 from rfl] at e1
    rw [show ((42 : UInt8).toNat : Int) = 42 from rfl] at e2
    simp only [e1, e2]

set_option maxHeartbeats 1000000 in
theorem rkind_any (s : ByteArray) (w : World) (h : 0 < s.size) : Calls Tryd.prog 30 #[.string s] w fun e w' => e = .returned (.int .i64 (kd s.data.toList)) ∧ w = w' := by
  have h0 : (0 : Int) < (s.size : Int) := by omega
  have HK := Lib.hid (kd_hd s h)
  generalize kd s.data.toList = q at *
  go_enter Tryd.func30, Tryd.ntmps30
  go_wp2_with fail
  · have hq : q = 1 := by rw [HK.out, if_pos ‹_›]
    subst hq
    go_ret
    exact ⟨rfl, rfl⟩
  · have hq : q = 2 := by rw [HK.out, if_neg (by rw [‹(_ == (58 : Int)) = false›]; decide), if_pos ‹_›]
    subst hq
    go_ret
    exact ⟨rfl, rfl⟩
  · have hq : q = 0 := by rw [HK.out, if_neg (by rw [‹(_ == (58 : Int)) = false›]; decide), if_neg (by rw [‹(_ == (42 : Int)) = false›]; decide)]
    subst hq
    go_ret
    exact ⟨rfl, rfl⟩
end Go.Proofs.YtekjpcmobgdgpaaDoor
