/- The contracts of path.Join, and of the laws' fit, light and hex. -/
import Derived.Test.YtgfjkpfjajjidaaDoorPtPat
import Derived.Shelf.Strings.OnBuilder
namespace Go.Proofs.YtgfjkpfjajjidaaDoor
open Go.RowKit Pl Go.Shelf

theorem x156 : Builder.Extra Tryd.prog Tryd.lays156_ren where
  sizeBuilder := by kernel_rfl
  liesBuilder := by kernel_rfl
  t5 := Tryd.underlying5
  a5 := Tryd.isAgg5
  z5 := Tryd.sizeOf5
  v5 := Tryd.zeroValue5
  infoByte := by kernel_rfl
  cellsByte := by kernel_rfl
  sizeByte := by kernel_rfl
  neB5 := by decide

theorem join_eq (xs : List (List UInt8)) : Lib.join xs [47] = joinW 47 xs := by
  cases xs with
  | nil => rfl
  | cons x r =>
    rw [Lib.join_cons, joinW]
    simp [Lib.joinTail]
theorem joinW_len (xs : List (List UInt8)) (m : Nat) (h : ∀ x ∈ xs, x.length ≤ m) : (joinW 47 xs).length ≤ xs.length * (m + 1) := by
  have h1 := flat_le xs m h (47 :: ·) (fun x => by simp)
  rw [List.flatMap] at h1
  rw [joinW, List.length_drop]
  omega

/-- strings.Join at a slash, of a row of one's own from a place on. -/
theorem joins_any (ys : List (List UInt8)) (g o c : Nat) (w : World) (hc : ∀ (j : Nat) (h : j < ys.length), w.cell? ⟨g, o + j, none⟩ = some (.string (mkB ys[j]))) (hg : g < w.heap.size) (hn : ys.length ≤ 1000) (hcl : ys.length ≤ c) (hs : ∀ x ∈ ys, x.length ≤ 2000000) :
    Calls Tryd.prog 53 #[.slice (some ⟨g, o, none⟩) ys.length c, .string ⟨#[47]⟩] w fun e w' => e = .returned (.string (mkB (joinW 47 ys))) ∧ Below w.heap.size w w' := by
  have hm : (ys.map mkB).map (·.data.toList) = ys := by rw [List.map_map]; conv => { rhs; rw [← List.map_id ys] }; exact List.map_congr_left fun x _ => mkB_data x
  have hl := joinW_len ys 2000000 hs
  have h2 : ys.length * (2000000 + 1) ≤ 1000 * 2000001 := Nat.mul_le_mul_right _ hn
  have hj := Any.strings_Join Tryd.lays156 x156 g o c (ys.map mkB) ⟨#[47]⟩ w (fun j x hx => by
    rw [List.getElem?_map, Option.map_eq_some_iff] at hx
    obtain ⟨y, hy, rfl⟩ := hx
    obtain ⟨hlt, rfl⟩ := List.getElem?_eq_some_iff.1 hy
    exact hc j hlt) hg (by rw [List.length_map]; omega) (by rw [List.length_map]; omega) (by rw [hm]; show (Lib.join ys [47]).length ≤ _; rw [join_eq]; omega)
  rw [hm, List.length_map] at hj
  change Calls Tryd.prog 53 _ _ (fun e w' => e = .returned (.string ⟨(Lib.join ys [47]).toArray⟩) ∧ Below w.heap.size w w') at hj
  rw [join_eq] at hj
  exact hj

set_option maxRecDepth 100000 in
set_option maxHeartbeats 2000000 in
theorem join_any (B : Nat) (xs : List (List UInt8)) (v : Value) (n : Nat) (w : World) (ho : w.ownsRow B 9 1 v xs.length (xs.map strV)) (hn : xs.length ≤ 1000) (hs : ∀ x ∈ xs, x.length ≤ 2000000) (hnn : n ≤ 2000000) :
    Calls Tryd.prog 37 #[v, .int .i64 n] w fun e w' => e = .returned (.string (mkB (joinW 47 (xs.drop n)))) ∧ Below w.heap.size w w' := by
  have n0 : ¬ (n : Int) < 0 := by omega
  have HNN := Lib.hid (fun (a : Option Addr) (c : Nat) (w : World) => (Any.strings_Join_none Tryd.lays156 x156 a c ⟨#[47]⟩ w))
  by_cases hlt : n < xs.length
  · obtain ⟨g, cap, rfl, hg0, hgl, hcl, hcm⟩ := own_shape ho (by omega)
    have HJ := Lib.hid (joins_any (xs.drop n) g n (cap - n) w (fun j h => by
      rw [List.length_drop] at h
      rw [ho.cellAt (n + j) (by omega)]
      simp [strV_mk, show n + j < xs.length by omega]) hgl (by simp; omega) (by simp; omega) (fun x hx => hs x (List.mem_of_mem_drop hx)))
    rw [List.length_drop] at HJ
    clear ho hs HNN
    generalize joinW 47 (xs.drop n) = Z at *
    have n1 : ¬ (xs.length : Int) < (n : Int) := by omega
    have n2 : ¬ cap = n := by omega
    go_enter Tryd.func37, Tryd.ntmps37
    go_wp2_with fail
    have e : min (n : Int) (xs.length : Int) = (n : Int) := by omega
    simp only [e, Int.toNat_natCast]
    refine HJ.out.mono ?_
    rintro e w1 ⟨rfl, hb⟩
    go_wp2_with fail
    go_ret
    exact ⟨rfl, hb⟩
  · have hd : xs.drop n = [] := List.drop_of_length_le (by omega)
    rw [hd]
    obtain ⟨A, c, rfl, hrd⟩ := Rd.own ho
    have hcl : xs.length ≤ c := by
      rcases ho.2 with ⟨h1, h2⟩ | ⟨g, cap, cur, h1, _, _, h2, _⟩
      · omega
      · cases h1; exact h2
    clear ho hs hrd hd
    go_enter Tryd.func37, Tryd.ntmps37
    go_wp2_with fail
    all_goals
      have e : min (n : Int) (xs.length : Int) = (xs.length : Int) := by omega
      simp only [e, Int.toNat_natCast, Nat.sub_self]
      refine (HNN.out _ _ _).mono ?_
      rintro e w1 ⟨rfl, rfl⟩
      go_wp2_with fail
      go_ret
      exact ⟨rfl, Below.refl _ _⟩

theorem fit_split : splitL (⟨#[47, 97, 37, 50, 102, 98, 47, 99, 63, 100]⟩ : ByteArray).data.toList = some [[97, 47, 98], [99]] := by decide +kernel
theorem fit_pat : patL (⟨#[47, 97, 47, 58, 120, 47, 42, 121]⟩ : ByteArray).data.toList = some [[97], [58, 120], [42, 121]] := by decide +kernel
theorem fit_shape : shapeL [[97], [58, 120], [42, 121]] = [47, 97, 47, 58, 47, 42] := by decide +kernel

def digsB : ByteArray := ⟨#[48, 49, 50, 51, 52, 53, 54, 55, 56, 57, 97, 98, 99, 100, 101, 102]⟩
theorem bits15 : ∀ n : Fin 256, bits BinOp.and IntKind.u8 (n.val : Int) 15 = ((n.val % 16 : Nat) : Int) := by decide +kernel
theorem wrap16 : ∀ n : Fin 16, IntKind.u8.wrap ((n.val : Int) + 1) = (n.val : Int) + 1 := by decide +kernel
theorem digs_fin : ∀ n : Fin 16, (digsB.extract n.val (n.val + 1)).data.toList = [hexD n.val] := by decide +kernel
theorem digs_at (n : Nat) (h : n < 16) : digsB.extract n (n + 1) = mkB [hexD n] := bytes_ext (by rw [mkB_data]; exact digs_fin ⟨n, h⟩)
theorem hex_sum (c : UInt8) : ((⟨#[37]⟩ : ByteArray) ++ digsB.extract (c.toNat / 16) (c.toNat / 16 + 1)) ++ digsB.extract (c.toNat % 16) (c.toNat % 16 + 1) = mkB (hexL c) := by
  have := c.toNat_lt
  rw [digs_at _ (by omega), digs_at _ (by omega)]
  apply bytes_ext
  rw [app_data, app_data, mkB_data, mkB_data, mkB_data]
  rfl
theorem run_dig (x : Nat) (h : x < 16) (W : World) : (Instr.slice 9 (.string ⟨#[48, 49, 50, 51, 52, 53, 54, 55, 56, 57, 97, 98, 99, 100, 101, 102]⟩) (some (.int .u8 (x : Int))) (some (.int .u8 ((x : Int) + 1))) none).run Tryd.prog W = .ok (.string (digsB.extract x (x + 1))) W := by
  have h0 : (0 : Int) ≤ (x : Int) := by omega
  have h1 : (x : Int) + 1 ≤ 16 := by omega
  have h2 : (x : Int) ≤ (x : Int) + 1 := by omega
  go_simp
  rfl

end Go.Proofs.YtgfjkpfjajjidaaDoor
