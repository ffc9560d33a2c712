/- The contracts of Itoa, Tag, Shard, Right; of the law's own shard. -/
import Derived.Test.YtilhegdhbcmlkaaDoorTg
import Derived.Test.YtilhegdhbcmlkaaDoorShelfI
import Derived.Lib.SmallJoins
import Derived.Lib.AppendIntMem
import Derived.Lib.LaidTab
import Derived.Lib.ItoaLen
namespace Go.Proofs.YtilhegdhbcmlkaaDoor
open Go.RowKit Go.Shelf

/-- What stands from the start: the powers of ten, and a place of a table. -/
structure GB (w : World) : Prop where
  pow : ∃ t fr, w.heap[0]? = some (.cells (Lib.pow10Tab.map fun z => Value.int .u64 z).toArray t fr)
  tab : Tab w
  big : 3 ≤ w.heap.size
theorem GB.below {w w' : World} {B : Nat} (h : GB w) (hb : Below B w w') (hB : 3 ≤ B) : GB w' := by
  obtain ⟨⟨t, fr, p⟩, ht, hs⟩ := h
  exact ⟨⟨t, fr, by rw [hb.block 0 (by omega)]; exact p⟩, by unfold Tab at *; rw [World.cell?_of_block (hb.block 2 (by omega))]; exact ht, Nat.le_trans hs hb.size⟩
theorem GB.on {w w' : World} (h : GB w) (hb : Below w.heap.size w w') : GB w' := h.below hb h.big
theorem GB.powTab {w : World} (h : GB w) {n : String} (hn : Tryd.prog.globalNamed n = some 0) : Lib.TabIs Tryd.prog w n .u64 Lib.pow10Tab := by
  obtain ⟨t, fr, hp⟩ := h.pow
  unfold Lib.TabIs World.var?
  rw [hn]
  simp only [Option.bind_some]
  rw [hp]
theorem itoa_any (n : Int) (h0 : -9223372036854775808 ≤ n) (h1 : n ≤ 9223372036854775807) (w : World) (hg : GB w) :
    Calls Tryd.prog 26 #[.int .i64 n] w fun e w' => e = .returned (.string (mkB (Lib.itoa n))) ∧ Below w.heap.size w w' :=
  (Any.strconv_Itoa Tryd.lays171 n h0 h1 w (hg.powTab (by kernel_rfl))).mono fun _ _ ⟨he, k, os, hw⟩ => ⟨he, by rw [hw]; exact Lib.below_grow _ w (Nat.le_refl _) k os⟩

theorem xor_step (h : Nat) (c : UInt8) (hh : h < 4294967296) : bits .xor .u32 (h : Int) ((c.toNat : Int) % 4294967296) * 16777619 % 4294967296 = ((fnvStep h c : Nat) : Int) := by
  have hc := c.toNat_lt
  rw [show ((c.toNat : Int) % 4294967296) = ((c.toNat : Nat) : Int) by omega, u32_xor_nat h c.toNat hh (by omega)]
  unfold fnvStep
  omega

theorem byte_get (s : ByteArray) (k : Nat) (h : k < s.size) : s.data.toList.take (k + 1) = s.data.toList.take k ++ [s[k]] := take_snoc s k h

theorem add_str (a b : ByteArray) (h : a.size + b.size ≤ 9223372036854775807) (wx : World) : (Op.stringOp .add a b).run Tryd.prog wx = .ok (.string (a ++ b)) wx := run_string_add_sum wx a b h
theorem app_data (a b : ByteArray) : (a ++ b).data.toList = a.data.toList ++ b.data.toList := by simp
theorem app_size (a b : ByteArray) : (a ++ b).size = a.size + b.size := by simp

set_option maxRecDepth 100000 in
set_option maxHeartbeats 2000000 in
theorem tag_any (s : ByteArray) (hs : s.size ≤ 100000) (w : World) (hg : GB w) : Calls Tryd.prog 17 #[.string s] w fun e w' => e = .returned (.string (tagB s)) ∧ Below w.heap.size w w' := by
  have HG := Lib.hid hg
  have HI := fun wx (hx : GB wx) => itoa_any (s.size : Int) (by omega) (by omega) wx hx
  clear hg
  go_enter Tryd.func17, Tryd.ntmps17
  go_wp2_with fail
  go_loopw [3, 7] (fun h i wr => ∃ (k hh : Nat), i = .int .i64 k ∧ h = .int .u32 (hh : Int) ∧ k ≤ s.size ∧ hh < 4294967296 ∧ Hid (hh = fnvL (s.data.toList.take k)) ∧ w = wr) (fun _ i _ => s.size - (intOf i).toNat)
  case atStart => exact ⟨0, 2166136261, rfl, rfl, by omega, by omega, rfl, rfl⟩
  case round =>
    obtain ⟨k, hh, rfl, rfl, hk, hlt, hH, rfl⟩ := hrel
    by_cases hks : k < s.size
    · have hx := xor_step hh s[k] hlt
      have hst : Hid (fnvStep hh s[k] = fnvL (s.data.toList.take (k + 1))) := by
        show _ = _
        rw [byte_get s k hks, fnv_snoc, hH.out]
      have hl2 := fnvStep_lt hh s[k]
      generalize fnvStep hh s[k] = h2 at *
      go_wp2_with fail
      exact ⟨⟨k + 1, h2, by simp, by simp [hx], by omega, hl2, hst, trivial⟩, by simp [intOf]; omega⟩
    · have hF : Hid (hh = fnvL s.data.toList) := by
        have := hH.out
        rwa [take_all s k (by omega)] at this
      have HFM := Lib.hid (fmt_any hh hlt w HG.out.tab (by have := HG.out.big; omega))
      have hxl := hexR_len 7 hh [] (by omega)
      have hil : (Lib.itoa (s.size : Int)).length ≤ 21 := Lib.itoa_length_le _ (by omega) (by omega)
      have hT : Hid (tagB s = mkB (hexR hh [] ++ 45 :: Lib.itoa (s.size : Int))) := by
        show mkB (tagL _) = _
        unfold tagL
        rw [Lib.itoa_nonneg, ← hF.out, data_len]
      clear hH hF
      simp only [List.length_nil, Nat.add_zero] at hxl
      generalize hexR hh [] = hx at *
      generalize Lib.itoa (s.size : Int) = ix at *
      have a1 := add_str (mkB hx) ⟨#[45]⟩ (by rw [mkB_size]; show _ + 1 ≤ _; omega)
      have a2 := add_str (mkB hx ++ ⟨#[45]⟩) (mkB ix) (by rw [app_size, mkB_size, mkB_size]; show _ + 1 + _ ≤ _; omega)
      have hTT : Hid (mkB hx ++ ⟨#[45]⟩ ++ mkB ix = tagB s) := by
        show _ = _
        rw [hT.out]
        apply bytes_ext
        rw [mkB_data, app_data, app_data, mkB_data, mkB_data]
        simp
      clear hT hxl hil
      generalize mkB hx ++ ⟨#[45]⟩ ++ mkB ix = x2 at *
      generalize mkB hx ++ ⟨#[45]⟩ = x1 at *
      generalize mkB hx = x0 at *
      go_wp2_with fail
      refine HFM.out.mono ?_
      rintro e w1 ⟨rfl, hb1⟩
      have HB1 := Lib.hid hb1
      have HG1 := Lib.hid (HG.out.on hb1)
      have HIT := Lib.hid (HI w1 HG1.out)
      clear hb1
      go_wp2_with fail
      refine HIT.out.mono ?_
      rintro e w2 ⟨rfl, hb2⟩
      have HB2 := Lib.hid (bt HB1.out hb2)
      clear hb2
      go_wp2_with fail
      go_ret
      exact ⟨by rw [← hTT.out]; rfl, HB2.out⟩

set_option maxHeartbeats 1000000 in
theorem shard_any (s : ByteArray) (hs : s.size ≤ 100000) (w : World) : Calls Tryd.prog 14 #[.string s] w fun e w' => e = .returned (.int .i64 (shardL s.data.toList : Nat)) ∧ w = w' := by
  go_enter Tryd.func14, Tryd.ntmps14
  go_wp2_with fail
  go_loopw [3, 7] (fun h i wr => ∃ (k hh : Nat), i = .int .i64 k ∧ h = .int .i64 (hh : Int) ∧ k ≤ s.size ∧ hh < 997 ∧ Hid (hh = shL (s.data.toList.take k)) ∧ w = wr) (fun _ i _ => s.size - (intOf i).toNat)
  case atStart => exact ⟨0, 0, rfl, rfl, by omega, by omega, rfl, rfl⟩
  case round =>
    obtain ⟨k, hh, rfl, rfl, hk, hlt, hH, rfl⟩ := hrel
    by_cases hks : k < s.size
    · have hst : Hid (shStep hh s[k] = shL (s.data.toList.take (k + 1))) := by
        show _ = _
        rw [byte_get s k hks, sh_snoc, hH.out]
      have hl2 : shStep hh s[k] < 997 := Nat.mod_lt _ (by decide)
      have hcl := s[k].toNat_lt
      have hx : (31 * (hh : Int) + (s[k].toNat : Int)) % 997 = ((shStep hh s[k] : Nat) : Int) := by unfold shStep; omega
      generalize shStep hh s[k] = h2 at *
      go_wp2_with fail
      exact ⟨⟨k + 1, h2, by simp, by simp [hx], by omega, hl2, hst, trivial⟩, by simp [intOf]; omega⟩
    · have hF : Hid (hh % 4 = shardL s.data.toList) := by
        have := hH.out
        rw [take_all s k (by omega)] at this
        show _ = _
        rw [this]; rfl
      clear hH
      go_wp2_with fail
      go_ret
      exact ⟨by rw [← hF.out]; simp, rfl⟩

set_option maxHeartbeats 1000000 in
theorem lshard_any (s : ByteArray) (hs : s.size ≤ 100000) (w : World) : Calls Tryd.prog 13 #[.string s] w fun e w' => e = .returned (.int .i64 (shardL s.data.toList : Nat)) ∧ w = w' := by
  go_enter Tryd.func13, Tryd.ntmps13
  go_wp2_with fail
  go_loopw [3, 7] (fun h i wr => ∃ (k hh : Nat), i = .int .i64 k ∧ h = .int .i64 (hh : Int) ∧ k ≤ s.size ∧ hh < 997 ∧ Hid (hh = shL (s.data.toList.take k)) ∧ w = wr) (fun _ i _ => s.size - (intOf i).toNat)
  case atStart => exact ⟨0, 0, rfl, rfl, by omega, by omega, rfl, rfl⟩
  case round =>
    obtain ⟨k, hh, rfl, rfl, hk, hlt, hH, rfl⟩ := hrel
    by_cases hks : k < s.size
    · have hst : Hid (shStep hh s[k] = shL (s.data.toList.take (k + 1))) := by
        show _ = _
        rw [byte_get s k hks, sh_snoc, hH.out]
      have hl2 : shStep hh s[k] < 997 := Nat.mod_lt _ (by decide)
      have hcl := s[k].toNat_lt
      have hx : (31 * (hh : Int) + (s[k].toNat : Int)) % 997 = ((shStep hh s[k] : Nat) : Int) := by unfold shStep; omega
      generalize shStep hh s[k] = h2 at *
      go_wp2_with fail
      exact ⟨⟨k + 1, h2, by simp, by simp [hx], by omega, hl2, hst, trivial⟩, by simp [intOf]; omega⟩
    · have hF : Hid (hh % 4 = shardL s.data.toList) := by
        have := hH.out
        rw [take_all s k (by omega)] at this
        show _ = _
        rw [this]; rfl
      clear hH
      go_wp2_with fail
      go_ret
      exact ⟨by rw [← hF.out]; simp, rfl⟩

theorem right_any (s : ByteArray) (w : World) : Calls Tryd.prog 15 #[.string s] w fun e w' => e = .returned (.bool (rightL s.data.toList)) ∧ w = w' := by
  unfold rightL
  rw [data_len]
  by_cases h1 : 1 ≤ s.size
  · have b1 : decide (1 ≤ s.size) = true := by simpa using h1
    by_cases h2 : s.size ≤ 40
    · have b2 : decide (s.size ≤ 40) = true := by simpa using h2
      rw [b1, b2]
      go_enter Tryd.func15, Tryd.ntmps15
      go_wp2_with fail
      go_ret
      refine ⟨?_, rfl⟩
      show Ending.returned (.bool (decide ((s.size : Int) ≤ 40))) = _
      congr 2
      simp
      omega
    · have b2 : decide (s.size ≤ 40) = false := by simpa using h2
      rw [b1, b2]
      go_enter Tryd.func15, Tryd.ntmps15
      go_wp2_with fail
      go_ret
      refine ⟨?_, rfl⟩
      show Ending.returned (.bool (decide ((s.size : Int) ≤ 40))) = _
      congr 2
      simp
      omega
  · have b1 : decide (1 ≤ s.size) = false := by simpa using h1
    rw [b1]
    go_enter Tryd.func15, Tryd.ntmps15
    go_wp2_with fail
    go_ret
    exact ⟨rfl, rfl⟩
end Go.Proofs.YtilhegdhbcmlkaaDoor
