/- The walk of TableTurns. -/
import Derived.Test.YtejncdhdkdhpmaaDoorTbFit
import Derived.Test.YtejncdhdkdhpmaaDoorTbLight
import Derived.Deep.RegionWith
namespace Go.Proofs.YtejncdhdkdhpmaaDoor
open Go.RowKit Pl

theorem i64_and16 (n : Int) : bits .and .i64 n 65535 = n % 65536 := by
  have h : (BitVec.ofInt 64 65535).toNat = 2 ^ 16 - 1 := by decide
  have key : (BitVec.ofInt 64 n &&& BitVec.ofInt 64 65535).toNat = (n % ((2 ^ 64 : Nat) : Int)).toNat % 2 ^ 16 := by
    rw [BitVec.toNat_and, BitVec.toNat_ofInt, h, Nat.and_two_pow_sub_one_eq_mod]
  show IntKind.i64.wrap ((BitVec.ofInt 64 n &&& BitVec.ofInt 64 65535).toNat : Nat) = n % 65536
  rw [key, IntKind.wrap_i64]
  omega

section
variable {P : Program} (w : World)
/-- An append at a step of a region that draws, of however many elements (none, too). -/
theorem step_append_all {ops : Array Oper} {o : Oper} {a : Act} {K : Act → World → Prop} {Q : Exit → Act → World → Prop} {E : Prop} (hgd : o.guard = none) (s x : Operand) (t : TypeId)
    (ho : o.op = .call { callee := .builtin .append, args := #[s, x], argTypes := #[t, t] })
    (base : Nat) (e : TypeId) (i : TypeInfo) (z : Value) (size bytes : Nat) (ht : P.underlying t = some (.slice e)) (hi : P.info? e = some i) (hz : i.zero = some z)
    (hsize : i.size = size) (hby : i.bytes = bytes) (hzs : z.cells.size = size) (hsz : 0 < size)
    (v : Value) (n : Nat) (xs : List Value) (hs : a.eval s = v) (hown : w.ownsRow base e size v n xs)
    (ad : Addr) (m c : Nat) (news : List Value) (hx : a.eval x = .slice (some ad) m c) (hl : news.length = m * size) (hnews : ∀ j u, news[j]? = some u → w.cell? (ad.add j) = some u) (h1 : ∀ u ∈ news, u.oneCell' = true)
    (h63 : n + m ≤ maxLen) (hbytes : (n + m) * bytes ≤ 140737488355328) (hbase : base ≤ w.heap.size)
    (h : ∀ A cap w', w'.ownsRow base e size (.slice A (n + m) cap) (n + m) (xs ++ news) → w.grownBy w' v.ownBlock → K (a.put o.dst (.slice A (n + m) cap)) w') :
    if Region.wanted o (yielded ops a.tmps) = true then Oper.wp P o a w K Q else E := by
  have hw : Region.wanted o (yielded ops a.tmps) = true := by simp [Region.wanted, hgd]
  rw [if_pos hw]
  obtain ⟨v', w', hr, h2, h3, _, _⟩ := run_append_own_at (P := P) w base t o.type e i z size bytes ht hi hz hsize hby hzs hsz v n xs hown ad m c news hl hnews h1 h63 hbytes hbase
  obtain ⟨A, cap, rfl, _⟩ := Rd.own h2
  unfold Oper.wp execOp
  simp only [ho, resolve, invoke, builtin, Sem.run_bind, Sem.run_pure, Result.andThen_ok, List.map_toArray, List.map_cons, List.map_nil, hs, hx, hr]
  exact h A cap w' h2 h3
end

theorem add_add (a : Addr) (m j : Nat) : (a.add m).add j = a.add (m + j) := by
  unfold Addr.add
  by_cases hm : m = 0
  · simp [hm]
  · by_cases hj : j = 0
    · simp [hj, hm]
    · simp [hm, hj, Nat.add_assoc]
theorem rt_drop : ∀ (l : List Rt) (k : Nat), rtCells (l.drop k) = (rtCells l).drop (k * 3)
  | l, 0 => by simp
  | [], k + 1 => by simp [rtCells]
  | r :: l, k + 1 => by
    have e : (k + 1) * 3 = 3 + k * 3 := by omega
    rw [List.drop_succ_cons, rt_drop l k, rt_cons, e, ← List.drop_drop]
    rfl
theorem rt_one (l : List Rt) : ∀ u ∈ rtCells l, u.oneCell' = true := fun u hu => by
  obtain ⟨r, _, h⟩ := List.mem_flatMap.1 hu
  simp only [rtV, List.mem_cons, List.not_mem_nil, or_false] at h
  rcases h with rfl | rfl | rfl <;> rfl
theorem rdr_drop {w : World} {B : Nat} {a : Addr} {l : List Rt} (h : Rd w B 3 (some a) l.length (rtCells l)) (h0 : 0 < l.length) (k : Nat) (j : Nat) (u : Value) (hu : (rtCells (l.drop k))[j]? = some u) : w.cell? ((a.add (k * 3)).add j) = some u := by
  obtain ⟨b, e, _, hc⟩ := h.2 (by omega)
  cases e
  rw [add_add]
  refine hc _ _ ?_
  rw [rt_drop, List.getElem?_drop] at hu
  exact hu
theorem rt_take (l : List Rt) (k j : Nat) (u : Value) (hu : (rtCells (l.take k))[j]? = some u) : (rtCells l)[j]? = some u := by
  have e : rtCells l = rtCells (l.take k) ++ rtCells (l.drop k) := by rw [← rt_app, List.take_append_drop]
  rw [e, List.getElem?_append_left (List.getElem?_eq_some_iff.1 hu).1]
  exact hu
theorem rdr_take {w : World} {B : Nat} {a : Addr} {l : List Rt} (h : Rd w B 3 (some a) l.length (rtCells l)) (h0 : 0 < l.length) (k : Nat) (j : Nat) (u : Value) (hu : (rtCells (l.take k))[j]? = some u) : w.cell? (a.add j) = some u := by
  obtain ⟨b, e, _, hc⟩ := h.2 (by omega)
  cases e
  exact hc _ _ (rt_take l k j u hu)

set_option maxRecDepth 100000 in
set_option maxHeartbeats 8000000 in
theorem turns_go (l : List Rt) (a : Addr) (c : Nat) (n : Int) (w : World) (hr : Rd w w.heap.size 3 (some a) l.length (rtCells l)) (hlc : l.length ≤ c) (hc : c ≤ maxLen) (hz : ∀ r ∈ l, r.m.length ≤ 140737488355328 ∧ r.p.length ≤ 140737488355328 ∧ r.h.length ≤ 140737488355328) (hw : HB w) (hL : lightL l = true) (h0 : 0 < l.length) :
    Calls Tryd.prog 8 #[.slice (some a) l.length c, .int .i64 n] w fun e w' => e = .returned (.bool true) ∧ Below w.heap.size w w' := by
  have HF := Lib.hid (fit_any w hw)
  have HW := Lib.hid hw
  have HR := Lib.hid hr
  have hl60 := (light_sizes hL).1
  have HP := Lib.hid (light_pat hL)
  have HLT := Lib.hid (fun w hr => light_any l (some a) c w hr (by omega) hz)
  rw [hL] at HLT
  have hand := i64_and16 n
  obtain ⟨k, hk⟩ : ∃ k : Nat, n % 65536 % (l.length : Int) = (k : Int) := ⟨(n % 65536 % (l.length : Int)).toNat, by have := Int.emod_nonneg (n % 65536) (b := (l.length : Int)) (by omega); omega⟩
  have hkl : k < l.length := by
    have := Int.emod_lt_of_pos (n % 65536) (b := (l.length : Int)) (by omega)
    omega
  have hn0 : ((l.length : Int) == 0) = false := by rw [beq_eq_false_iff_ne]; omega
  unfold maxLen at hc
  clear hw hr hz hL
  go_enter Tryd.func8, Tryd.ntmps8
  go_wp2_with fail
  refine HF.out.mono ?_
  rintro e w1 ⟨rfl, hb1⟩
  have HB1 := Lib.hid hb1
  have HR1 := Lib.hid ((HR.out.below hb1 (Nat.le_refl _)).wide hb1.size)
  clear hb1
  go_wp2_with fail
  refine (HLT.out _ HR1.out).mono ?_
  rintro e w2 ⟨rfl, hb2⟩
  have HB2 := Lib.hid (bt HB1.out hb2)
  have HR2 := Lib.hid ((HR1.out.below hb2 (Nat.le_refl _)).wide hb2.size)
  clear hb2
  go_wp2_with fail
  rw [hk]
  have hk1 : (k : Int) ≤ (l.length : Int) := by omega
  have hk2 : ¬ (c = k) := by omega
  have hk3 : (k : Int) ≤ (c : Int) := by omega
  have hk4 : k ≤ c := by omega
  have hk5 : k ≤ l.length := by omega
  have hk6 : (0 : Int) ≤ (k : Int) := by omega
  have hk7 : (l.length : Int) ≤ (c : Int) := by omega
  clear hand hk
  obtain ⟨i3, hi3, hy0, hy1, hy2⟩ := info_parts Tryd.info31
  have HI3 := Lib.hid hi3; have HY0 := Lib.hid hy0; have HY1 := Lib.hid hy1; have HY2 := Lib.hid hy2
  clear hi3 hy0 hy1 hy2
  have HL1 : Hid ((rtCells (l.drop k)).length = (l.length - k) * 3) := by show _ = _; rw [rt_len, List.length_drop]
  have HL2 : Hid ((rtCells (l.take k)).length = k * 3) := by show _ = _; rw [rt_len, List.length_take, Nat.min_eq_left hk5]
  have HT1 : Hid (∀ W, Below w2.heap.size w2 W → ∀ j u, (rtCells (l.drop k))[j]? = some u → W.cell? ((a.add (k * 3)).add j) = some u) := fun W hW => rdr_drop (HR2.out.below hW (Nat.le_refl _)) h0 k
  have HT2 : Hid (∀ W, Below w2.heap.size w2 W → ∀ j u, (rtCells (l.take k))[j]? = some u → W.cell? (a.add j) = some u) := fun W hW => rdr_take (HR2.out.below hW (Nat.le_refl _)) h0 k
  have HN1 : Hid (0 + (l.length - k) ≤ maxLen ∧ (0 + (l.length - k)) * 48 ≤ 140737488355328 ∧ 0 < l.length - k) := by unfold maxLen; exact ⟨by omega, by omega, by omega⟩
  have HN2 : Hid (l.length - k + k ≤ maxLen ∧ (l.length - k + k) * 48 ≤ 140737488355328) := by unfold maxLen; exact ⟨by omega, by omega⟩
  have HBD : Hid (Below w2.heap.size w2 w2.drew) := (Below.refl _ _).drew
  go_region_law ((first
    | (refine step_append_all _ (by rfl) (.tmp 24) (.tmp 27) 22 (by rfl) w2.heap.size 31 i3 (.agg #[.string ⟨#[]⟩, .string ⟨#[]⟩, .string ⟨#[]⟩]) 3 48 Tryd.underlying22 HI3.out HY0.out HY1.out HY2.out rfl (by decide) (.slice (some ⟨g5, 0, none⟩) (l.length - k) c5) (l.length - k) (rtCells (l.drop k)) (by rfl) HW5.out a k c (rtCells (l.take k)) (by rfl) HL2.out (HT2.out _ HB5.out) (rt_one _) HN2.out.1 HN2.out.2 HZ5.out ?_
       intro A6 c6 w6 hown6 hgr6)
    | (refine step_append_lies _ (by rfl) (.const (.slice none 0 0)) (.tmp 23) 22 (by rfl) w2.heap.size 31 i3 (.agg #[.string ⟨#[]⟩, .string ⟨#[]⟩, .string ⟨#[]⟩]) 3 48 Tryd.underlying22 HI3.out HY0.out HY1.out HY2.out rfl (by decide) (.slice none 0 0) 0 [] (by rfl) (World.ownsRow_nil _ _ _ _) (a.add (k * 3)) (l.length - k) (c - k) (rtCells (l.drop k)) (by rfl) HL1.out (HT1.out _ HBD.out) (rt_one _) HN1.out.2.2 HN1.out.1 HN1.out.2.1 (Nat.le_refl _) w2.heap.size rfl ?_
       intro g5 c5 w5 hown5 hgr5 hat5 hlt5
       simp only [Nat.zero_add, List.nil_append] at hown5 ⊢
       have HW5 := Lib.hid hown5
       have HZ5 : Hid (w2.heap.size ≤ w5.heap.size) := hgr5.size
       have HB5 : Hid (Below w2.heap.size w2 w5) := HBD.out.grown hgr5 (Nat.le_refl _) (fun k hk => (by cases hk))
       clear hown5 hgr5 hat5 hlt5)))
  all_goals
    have e6 : l.length - k + k = l.length := by omega
    try rw [e6] at hown6
    have hm6 : (l.drop k ++ l.take k).length = l.length := by simp; omega
    obtain ⟨A7, c7, e7, hr7⟩ := Rd.own hown6
    cases e7
    have HB6 : Hid (Below w2.heap.size w2 w6) := HB5.out.grown hgr6 HZ5.out (fun k hk => (HW5.out.lt k hk).1)
    have HR6 : Hid (Rd w6 w6.heap.size 3 A6 (l.drop k ++ l.take k).length (rtCells (l.drop k ++ l.take k))) := by
      show Rd _ _ _ _ _ _
      rw [hm6, rt_app]; exact hr7
    have HW6 := Lib.hid (HW.out.below (bt HB2.out HB6.out))
    have HC1 := Lib.hid (check_any l (some a) c w6 ((HR2.out.below HB6.out (Nat.le_refl _)).wide HB6.out.size) HW6.out (by omega) HP.out)
    have HP7 : Hid (∀ r ∈ l.drop k ++ l.take k, r.p.length ≤ 10000) := fun r hr => HP.out r (by
      rcases List.mem_append.1 hr with h | h
      · exact List.mem_of_mem_drop h
      · exact List.mem_of_mem_take h)
    have HC2 := Lib.hid (fun w hr hw => check_any (l.drop k ++ l.take k) A6 c6 w hr hw (by omega) HP7.out)
    have hpm : checkL (l.drop k ++ l.take k) = checkL l := check_perm (by
      have := @List.perm_append_comm _ (l.drop k) (l.take k)
      rwa [List.take_append_drop] at this)
    rw [hpm] at HC2
    have HM6 := Lib.hid hm6
    generalize checkL l = q at *
    clear hr7 hown6 hgr6 hm6 hpm e6 HT1 HT2 HN1 HN2 HBD HL1 HL2 HW5 HZ5 HB5
    go_wp2_with fail
    refine HC1.out.mono ?_
    rintro e w8 ⟨rfl, hb8⟩
    have HR8 := Lib.hid ((HR6.out.below hb8 (Nat.le_refl _)).wide hb8.size)
    have HW8 := Lib.hid (HW6.out.below hb8)
    have HC3 := Lib.hid (HC2.out w8 HR8.out HW8.out)
    rw [HM6.out] at HC3
    have HB8 := Lib.hid (bt HB2.out (bt HB6.out hb8))
    clear hb8
    go_wp2_with fail
    refine HC3.out.mono ?_
    rintro e w9 ⟨rfl, hb9⟩
    go_wp2_with fail
    go_ret
    exact ⟨rfl, bt HB8.out hb9⟩

set_option maxRecDepth 100000 in
set_option maxHeartbeats 8000000 in
theorem turns_heavy (l : List Rt) (A : Option Addr) (c : Nat) (n : Int) (w : World) (hr : Rd w w.heap.size 3 A l.length (rtCells l)) (hlc : l.length ≤ c) (hc : c ≤ maxLen) (hz : ∀ r ∈ l, r.m.length ≤ 140737488355328 ∧ r.p.length ≤ 140737488355328 ∧ r.h.length ≤ 140737488355328) (hw : HB w) (hL : lightL l = false) :
    Calls Tryd.prog 8 #[.slice A l.length c, .int .i64 n] w fun e w' => e = .returned (.bool true) ∧ Below w.heap.size w w' := by
  have HF := Lib.hid (fit_any w hw)
  have HR := Lib.hid hr
  unfold maxLen at hc
  have HLT := Lib.hid (fun w hr => light_any l A c w hr (by omega) hz)
  rw [hL] at HLT
  clear hw hr hz hL
  go_enter Tryd.func8, Tryd.ntmps8
  go_wp2_with fail
  refine HF.out.mono ?_
  rintro e w1 ⟨rfl, hb1⟩
  have HB1 := Lib.hid hb1
  have HR1 := Lib.hid ((HR.out.below hb1 (Nat.le_refl _)).wide hb1.size)
  clear hb1
  go_wp2_with fail
  refine (HLT.out _ HR1.out).mono ?_
  rintro e w2 ⟨rfl, hb2⟩
  go_wp2_with fail
  go_ret
  exact ⟨rfl, bt HB1.out hb2⟩

set_option maxRecDepth 100000 in
set_option maxHeartbeats 8000000 in
theorem turns_none (A : Option Addr) (c : Nat) (n : Int) (w : World) (hw : HB w) :
    Calls Tryd.prog 8 #[.slice A 0 c, .int .i64 n] w fun e w' => e = .returned (.bool true) ∧ Below w.heap.size w w' := by
  have HF := Lib.hid (fit_any w hw)
  have HLT := Lib.hid (fun w => light_any [] A c w ⟨rfl, fun h => absurd rfl h⟩ (by simp) (fun r hr => nomatch hr))
  have e0 : lightL [] = true := rfl
  rw [e0] at HLT
  clear hw e0
  go_enter Tryd.func8, Tryd.ntmps8
  go_wp2_with fail
  refine HF.out.mono ?_
  rintro e w1 ⟨rfl, hb1⟩
  have HB1 := Lib.hid hb1
  clear hb1
  go_wp2_with fail
  refine (HLT.out _).mono ?_
  rintro e w2 ⟨rfl, hb2⟩
  go_wp2_with fail
  go_ret
  exact ⟨rfl, bt HB1.out hb2⟩

theorem turns_row (l : List Rt) (A : Option Addr) (c : Nat) (n : Int) (w : World) (hr : Rd w w.heap.size 3 A l.length (rtCells l)) (hlc : l.length ≤ c) (hc : c ≤ maxLen) (hz : ∀ r ∈ l, r.m.length ≤ 140737488355328 ∧ r.p.length ≤ 140737488355328 ∧ r.h.length ≤ 140737488355328) (_ : (Lit.int .i64 n).wf = true) (hw : HB w) :
    Calls Tryd.prog 8 #[.slice A l.length c, .int .i64 n] w fun e w' => e = .returned (.bool true) ∧ Below w.heap.size w w' := by
  cases hL : lightL l with
  | false => exact turns_heavy l A c n w hr hlc hc hz hw hL
  | true =>
    by_cases h0 : l.length = 0
    · have : l = [] := List.length_eq_zero_iff.1 h0
      subst this
      exact turns_none A c n w hw
    · obtain ⟨a, rfl, _, _⟩ := hr.2 h0
      exact turns_go l a c n w hr hlc hc hz hw hL (by omega)

end Go.Proofs.YtejncdhdkdhpmaaDoor
