/- The walk of the law HeadFirst. -/
import Derived.Test.YtihdjgjceadooaaDoorLengths
import Derived.Test.YtihdjgjceadooaaDoorFstPlain
namespace Go.Proofs.YtihdjgjceadooaaDoor
open Go.RowKit Pl

theorem free_step (s : ByteArray) (k : Nat) (h : k < s.size) (hk : 32 ∉ s.data.toList.take k) (hc : s[k] ≠ 32) : 32 ∉ s.data.toList.take (k + 1) := by
  rw [take_snoc s k h]
  simp only [List.mem_append, List.mem_singleton, not_or]
  exact ⟨hk, fun e => hc e.symm⟩

def oneS : ByteArray := ⟨#[32]⟩
def lineF (m t v : ByteArray) : ByteArray := m ++ oneS ++ t ++ oneS ++ v
theorem lineF_data (m t v : ByteArray) : (lineF m t v).data.toList = m.data.toList ++ 32 :: (t.data.toList ++ 32 :: v.data.toList) := by
  unfold lineF
  rw [app_data, app_data, app_data, app_data]
  simp [oneS]
theorem lineF_size (m t v : ByteArray) : (lineF m t v).size = m.size + t.size + v.size + 2 := by
  unfold lineF
  rw [app_size, app_size, app_size, app_size]
  have : oneS.size = 1 := rfl
  omega

theorem cells7 {W : World} {g : Nat} {u0 u1 u2 u3 u4 u5 u6 : Value} (h : W.heap[g]? = some (.cells #[u0, u1, u2, u3, u4, u5, u6] 32 (0, 0))) : W.cell? ⟨g, 0, none⟩ = some u0 ∧ W.cell? ⟨g, 1, none⟩ = some u1 ∧ W.cell? ⟨g, 2, none⟩ = some u2 ∧ W.cell? ⟨g, 3, none⟩ = some u3 ∧ W.cell? ⟨g, 4, none⟩ = some u4 ∧ W.cell? ⟨g, 5, none⟩ = some u5 ∧ W.cell? ⟨g, 6, none⟩ = some u6 := by
  refine ⟨?_, ?_, ?_, ?_, ?_, ?_, ?_⟩ <;> (rw [blk_cell h]; rfl)

/-- What the law's last lines see of the target. -/
theorem target_cases (t : ByteArray) : (t.toList.isEmpty = true ∧ Hid (slashB t.data.toList = false)) ∨ ∃ h : 0 < t.size, t.toList.isEmpty = false ∧ ((((t[0]'h).toNat : Int) == 47) = true ∧ Hid (slashB t.data.toList = true) ∨ (((t[0]'h).toNat : Int) == 47) = false ∧ Hid (slashB t.data.toList = false)) := by
  by_cases h : 0 < t.size
  · right
    have hne : t.data.toList ≠ [] := fun e => by rw [← data_len, e] at h; simp at h
    have hd : t.data.toList = t[0]'h :: t.data.toList.drop 1 := by
      have := drop_at t 0 h
      simpa using this
    have hs : slashB t.data.toList = (t[0]'h == 47) := by rw [hd, slash_cons]
    refine ⟨h, str_nonempty t hne, ?_⟩
    by_cases e : t[0]'h = 47
    · left
      exact ⟨by rw [e]; rfl, by show _ = _; rw [hs, e]; rfl⟩
    · right
      refine ⟨?_, by show _ = _; rw [hs]; simpa using e⟩
      rw [beq_eq_false_iff_ne]
      intro e2
      exact e (UInt8.toNat_inj.1 (by show (t[0]'h).toNat = 47; omega))
  · left
    have hnil : t.data.toList = [] := List.eq_nil_of_length_eq_zero (by rw [data_len]; omega)
    exact ⟨str_empty t hnil, by show _ = _; rw [hnil]; rfl⟩

set_option maxHeartbeats 4000000 in
set_option maxRecDepth 100000 in
theorem first_walk (m t v : ByteArray) (w : World) (hsz : m.size + t.size + v.size ≤ 180) : Calls Tryd.prog 5 #[.string m, .string t, .string v] w fun e w' => e = .returned (.bool true) ∧ Below w.heap.size w w' := by
  go_enter Tryd.func5, Tryd.ntmps5
  go_wp2_with fail
  refine (fit_any _).mono ?_
  rintro e w1 ⟨rfl, hb1⟩
  go_wp2_with fail
  have hcl : ∀ j (hj : j < [m, t, v].length), (w1.alloc (Obj.cells #[Value.string m, Value.string t, Value.string v] 9)).cell? ⟨w1.heap.size, j, none⟩ = some (.string ([m, t, v][j]'hj)) := by
    intro j hj
    have hj3 : j < 3 := by simpa using hj
    rcases (show j = 0 ∨ j = 1 ∨ j = 2 from by omega) with rfl | rfl | rfl <;> simp
  have hb2 : Below w.heap.size w (w1.alloc (Obj.cells #[Value.string m, Value.string t, Value.string v] 9)) := ba hb1 _
  have HCL := Lib.hid hcl
  clear hcl
  generalize w1.alloc (Obj.cells #[Value.string m, Value.string t, Value.string v] 9) = W at *
  generalize w1.heap.size = gr at *
  go_loop [28] (fun i => ∃ j : Nat, j ≤ 3 ∧ i = .int .i64 j ∧ Hid (∀ x ∈ [m, t, v].take j, (32 : UInt8) ∉ x.data.toList)) (fun i => 3 - (intOf i).toNat)
  case atStart => exact ⟨0, by omega, rfl, fun x hx => by simp at hx⟩
  case round =>
    obtain ⟨j, hj, rfl, hfree⟩ := hrel
    by_cases hlt : j < 3
    · have hcell := HCL.out j hlt
      have hsn : [m, t, v].take (j + 1) = [m, t, v].take j ++ [[m, t, v][j]'hlt] := List.take_succ_eq_append_getElem hlt
      have hxs : ([m, t, v][j]'hlt).size ≤ 180 := by
        rcases (show j = 0 ∨ j = 1 ∨ j = 2 from by omega) with rfl | rfl | rfl
        · show m.size ≤ 180; omega
        · show t.size ≤ 180; omega
        · show v.size ≤ 180; omega
      generalize [m, t, v][j]'hlt = x at *
      have HSN := Lib.hid hsn
      clear hsn
      go_wp2_with fail
      go_loop [34] (fun i => ∃ k : Nat, k ≤ x.size ∧ i = .int .i64 k ∧ Hid ((32 : UInt8) ∉ x.data.toList.take k)) (fun i => x.size - (intOf i).toNat)
      case atStart => exact ⟨0, by omega, rfl, (by simp : (32 : UInt8) ∉ x.data.toList.take 0)⟩
      case round =>
        obtain ⟨k, hk, rfl, hin⟩ := hrel
        by_cases hkl : k < x.size
        · by_cases hc : x[k]'hkl = 32
          · have htest : (((x[k]'hkl).toNat : Int) == 32) = true := by rw [hc]; rfl
            clear hc
            go_wp2
            go_ret
            exact ⟨rfl, hb2⟩
          · have htest : (((x[k]'hkl).toNat : Int) == 32) = false := by
              rw [beq_eq_false_iff_ne]; intro h; exact hc (UInt8.toNat_inj.1 (by show (x[k]'hkl).toNat = 32; omega))
            have HN := Lib.hid (free_step x k hkl hin.out hc)
            clear hc
            go_wp2
            go_round
            case rel => exact ⟨k + 1, by omega, by go_num, HN⟩
            case measure => simp [intOf]; omega
        · have HN : Hid (∀ y ∈ [m, t, v].take (j + 1), (32 : UInt8) ∉ y.data.toList) := by
            intro y hy
            rw [HSN.out, List.mem_append, List.mem_singleton] at hy
            rcases hy with hy | rfl
            · exact hfree.out y hy
            · have := hin.out
              rwa [take_all y k (by omega)] at this
          go_wp2
          go_round
          case rel => exact ⟨j + 1, by omega, by go_num, HN⟩
          case measure => simp [intOf]; omega
    · obtain rfl : j = 3 := by omega
      have fm := hfree.out m (by simp)
      have ft := hfree.out t (by simp)
      have fv := hfree.out v (by simp)
      have hls := lineF_size m t v
      have hpf := parse_first (lineF m t v) m t v (lineF_data m t v) fm ft fv (by omega)
      have HS : Hid (∀ s ∈ [lineF m t v, hostL], s.size ≤ 1000000) := fun s hs => by
        simp at hs
        rcases hs with rfl | rfl
        · omega
        · decide
      have hz := eq_list v httpB
      have htok := fun w => tok_any m w
      have hval := fun w => val_any t w
      have htc := target_cases t
      simp only [httpB] at hz
      clear fm ft fv hfree HCL
      have hlo : lineF m t v = m ++ oneS ++ t ++ oneS ++ v := rfl
      by_cases hok : v.data.toList = httpB ∧ tokB m.data.toList = true ∧ slashB t.data.toList = true ∧ valB t.data.toList = true
      · rw [if_pos hok] at hpf
        obtain ⟨k1, k2, k3, k4⟩ := hok
        rw [k2] at htok
        rw [k4] at hval
        have hz1 : (v.toList == [72, 84, 84, 80, 47, 49, 46, 49]) = true := by rw [hz]; exact decide_eq_true k1
        have hpr := parse_row [lineF m t v, hostL] W #[.string (lineF m t v), .string hostL] 2 rfl rfl (by decide) (by decide) HS.out _ hpf
        have HPR := Lib.hid hpr; have HT := Lib.hid htok; have HV := Lib.hid hval
        rcases htc with ⟨_, hx⟩ | ⟨ht0, he0, ⟨hx, _⟩ | ⟨_, hx⟩⟩
        · rw [hx.out] at k3; cases k3
        · clear hpr htok hval hpf hz k1 k2 k3 k4 hlo
          go_wp2_with fail
          refine HPR.out.mono ?_
          rintro e w4 ⟨vv, rfl, hov, hb4⟩
          obtain ⟨Av, cv, rfl, _⟩ := Rd.own hov
          clear hov
          simp only [hdVal]
          go_wp2_with fail
          refine (HT.out _).mono ?_
          rintro e w5 ⟨rfl, hb5⟩
          go_wp2_with fail
          refine (HV.out _).mono ?_
          rintro e w6 ⟨rfl, hb6⟩
          have hbk : w6.heap[w4.heap.size]? = _ := (hb6.block _ (by have := hb5.size; simp at this; omega)).trans ((hb5.block _ (by simp)).trans (heap_alloc_new w4 _))
          obtain ⟨c0, c1, c2, c3, c4, c5, c6⟩ := cells7 hbk
          clear hbk
          go_wp2_with fail
          go_ret
          exact ⟨ret_bool (by simp), bt (bt (ba (bt (ba hb2 _) hb4) _) hb5) hb6⟩
        · rw [hx.out] at k3; cases k3
      · rw [if_neg hok] at hpf
        have hpr := parse_row [lineF m t v, hostL] W #[.string (lineF m t v), .string hostL] 2 rfl rfl (by decide) (by decide) HS.out _ hpf
        have HPR := Lib.hid hpr
        have HOK := Lib.hid hok
        clear hpr hpf hlo hok
        go_wp2_with fail
        refine HPR.out.mono ?_
        rintro e w4 ⟨vv, rfl, hov, hb4⟩
        obtain ⟨Av, cv, rfl, _⟩ := Rd.own hov
        clear hov
        simp only [hdVal, badH]
        cases k2 : tokB m.data.toList with
        | false =>
          rw [k2] at htok
          have HT := Lib.hid htok
          clear htok hval hz htc
          go_wp2_with fail
          refine (HT.out _).mono ?_
          rintro e w5 ⟨rfl, hb5⟩
          have hbk : w5.heap[w4.heap.size]? = _ := (hb5.block _ (by simp)).trans (heap_alloc_new w4 _)
          obtain ⟨c0, c1, c2, c3, c4, c5, c6⟩ := cells7 hbk
          clear hbk
          go_wp2_with fail
          go_ret
          exact ⟨rfl, bt (ba (bt (ba hb2 _) hb4) _) hb5⟩
        | true =>
          rw [k2] at htok
          have HT := Lib.hid htok
          clear htok
          go_wp2_with fail
          refine (HT.out _).mono ?_
          rintro e w5 ⟨rfl, hb5⟩
          have hbk : w5.heap[w4.heap.size]? = _ := (hb5.block _ (by simp)).trans (heap_alloc_new w4 _)
          rcases htc with ⟨he0, hx⟩ | ⟨ht0, he0, ⟨hx, hy⟩ | ⟨hx, hy⟩⟩
          · obtain ⟨c0, c1, c2, c3, c4, c5, c6⟩ := cells7 hbk
            clear hbk hval hz
            go_wp2_with fail
            go_ret
            exact ⟨rfl, bt (ba (bt (ba hb2 _) hb4) _) hb5⟩
          · cases k4 : valB t.data.toList with
            | false =>
              rw [k4] at hval
              have HV := Lib.hid hval
              clear hval hz
              go_wp2_with fail
              refine (HV.out _).mono ?_
              rintro e w6 ⟨rfl, hb6⟩
              have hbk6 : w6.heap[w4.heap.size]? = _ := (hb6.block _ (by have := hb5.size; simp at this; omega)).trans hbk
              obtain ⟨c0, c1, c2, c3, c4, c5, c6⟩ := cells7 hbk6
              clear hbk hbk6
              go_wp2_with fail
              go_ret
              exact ⟨rfl, bt (bt (ba (bt (ba hb2 _) hb4) _) hb5) hb6⟩
            | true =>
              rw [k4] at hval
              have HV := Lib.hid hval
              have hvn : ¬ v.data.toList = [72, 84, 84, 80, 47, 49, 46, 49] := fun e => HOK.out ⟨e, k2, hy.out, k4⟩
              have hz1 : (v.toList == [72, 84, 84, 80, 47, 49, 46, 49]) = false := by rw [hz]; exact decide_eq_false hvn
              clear hval hz hvn
              go_wp2_with fail
              refine (HV.out _).mono ?_
              rintro e w6 ⟨rfl, hb6⟩
              have hbk6 : w6.heap[w4.heap.size]? = _ := (hb6.block _ (by have := hb5.size; simp at this; omega)).trans hbk
              obtain ⟨c0, c1, c2, c3, c4, c5, c6⟩ := cells7 hbk6
              clear hbk hbk6
              go_wp2_with fail
              go_ret
              exact ⟨rfl, bt (bt (ba (bt (ba hb2 _) hb4) _) hb5) hb6⟩
          · obtain ⟨c0, c1, c2, c3, c4, c5, c6⟩ := cells7 hbk
            clear hbk hval hz
            go_wp2_with fail
            go_ret
            exact ⟨rfl, bt (ba (bt (ba hb2 _) hb4) _) hb5⟩

theorem first_any (m t v : ByteArray) (w : World) (h0 : m.size ≤ 140737488355328) (h1 : t.size ≤ 140737488355328) (h2 : v.size ≤ 140737488355328) : Calls Tryd.prog 5 #[.string m, .string t, .string v] w fun e w' => e = .returned (.bool true) ∧ Below w.heap.size w w' := by
  by_cases hs : m.size + t.size + v.size ≤ 180
  · exact first_walk m t v w hs
  · go_enter Tryd.func5, Tryd.ntmps5
    go_wp2_with fail
    refine (fit_any _).mono ?_
    rintro e w1 ⟨rfl, hb1⟩
    go_wp2_with fail
    go_ret
    exact ⟨rfl, hb1⟩

end Go.Proofs.YtihdjgjceadooaaDoor
