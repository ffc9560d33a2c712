/- The walk of TrieKeeps. -/
import Derived.Test.YtekjpcmobgdgpaaDoorLws
import Derived.Deep.RegionHeld3
import Derived.BigQuiet
import Derived.Deep.DrawnRows
namespace Go.Proofs.YtekjpcmobgdgpaaDoor
open Go.RowKit Pl

theorem i64_and16 (n : Int) : bits .and .i64 n 65535 = n % 65536 := by
  have h : (BitVec.ofInt 64 65535).toNat = 2 ^ 16 - 1 := by decide
  have key : (BitVec.ofInt 64 n &&& BitVec.ofInt 64 65535).toNat = (n % ((2 ^ 64 : Nat) : Int)).toNat % 2 ^ 16 := by
    rw [BitVec.toNat_and, BitVec.toNat_ofInt, h, Nat.and_two_pow_sub_one_eq_mod]
  show IntKind.i64.wrap ((BitVec.ofInt 64 n &&& BitVec.ofInt 64 65535).toNat : Nat) = n % 65536
  rw [key, IntKind.wrap_i64]
  omega
theorem add_add3 (a : Addr) (m j : Nat) : (a.add m).add j = a.add (m + j) := by
  unfold Addr.add
  by_cases hm : m = 0
  · simp [hm]
  · by_cases hj : j = 0
    · simp [hj, hm]
    · simp [hm, hj, Nat.add_assoc]
theorem rt_drop : ∀ (l : List Rt) (k : Nat), rtCells (l.drop k) = (rtCells l).drop (k * 3)
  | l, 0 => by simp
  | [], k + 1 => by simp [rtCells]
  | r :: l, k + 1 => by
    have e : (k + 1) * 3 = 3 + k * 3 := by omega
    rw [List.drop_succ_cons, rt_drop l k, rt_cons, e, ← List.drop_drop]
    rfl
theorem rt_take (l : List Rt) (k j : Nat) (u : Value) (hu : (rtCells (l.take k))[j]? = some u) : (rtCells l)[j]? = some u := by
  have e : rtCells l = rtCells (l.take k) ++ rtCells (l.drop k) := by rw [← rt_app, List.take_append_drop]
  rw [e, List.getElem?_append_left (List.getElem?_eq_some_iff.1 hu).1]
  exact hu
theorem rdt_take {w : World} {B : Nat} {A : Option Addr} {l : List Rt} (h : Rd w B 3 A l.length (rtCells l)) (k : Nat) : Rd w B 3 A (l.take k).length (rtCells (l.take k)) := by
  refine ⟨by rw [rt_len], fun h0 => ?_⟩
  obtain ⟨b, e, hb, hc⟩ := h.2 (by rw [List.length_take] at h0; omega)
  exact ⟨b, e, hb, fun j u hu => hc _ _ (rt_take l k j u hu)⟩
theorem rdt_drop {w : World} {B : Nat} {a : Addr} {l : List Rt} (h : Rd w B 3 (some a) l.length (rtCells l)) (k : Nat) : Rd w B 3 (some (a.add (k * 3))) (l.drop k).length (rtCells (l.drop k)) := by
  refine ⟨by rw [rt_len], fun h0 => ?_⟩
  obtain ⟨b, e, hb, hc⟩ := h.2 (by rw [List.length_drop] at h0; omega)
  cases e
  refine ⟨_, rfl, by rw [show (a.add (k * 3)).block = a.block from by unfold Addr.add; split <;> rfl]; exact hb, fun j u hu => ?_⟩
  rw [add_add3]
  refine hc _ _ ?_
  rw [rt_drop, List.getElem?_drop] at hu
  exact hu
theorem rdt_none {w : World} {B : Nat} (A : Option Addr) : Rd w B 3 A ([] : List Rt).length (rtCells []) := ⟨rfl, fun h => absurd rfl h⟩

/-- Three cells of a block. -/
def C3 (w : World) (g : Nat) (u0 u1 u2 : Value) : Prop := g < w.heap.size ∧ w.cell? ⟨g, 0, none⟩ = some u0 ∧ w.cell? ⟨g, 1, none⟩ = some u1 ∧ w.cell? ⟨g, 2, none⟩ = some u2
theorem C3.new (w : World) (u0 u1 u2 : Value) : C3 (w.alloc (.cells #[u0, u1, u2] 32)) w.heap.size u0 u1 u2 := by
  refine ⟨by simp, ?_, ?_, ?_⟩ <;> rw [new_cell4] <;> rfl
theorem C3.on {w w' : World} {g : Nat} {u0 u1 u2 : Value} (h : C3 w g u0 u1 u2) (hb : Below w.heap.size w w') : C3 w' g u0 u1 u2 :=
  ⟨Nat.lt_of_lt_of_le h.1 hb.size, (hb.cell (p := ⟨g, 0, none⟩) h.1).trans h.2.1, (hb.cell (p := ⟨g, 1, none⟩) h.1).trans h.2.2.1, (hb.cell (p := ⟨g, 2, none⟩) h.1).trans h.2.2.2⟩

set_option maxRecDepth 100000 in
set_option maxHeartbeats 16000000 in
theorem keeps_go (l : List Rt) (A : Option Addr) (c : Nat) (n : Int) (x : List Seg) (PA : Option Addr) (pc : Nat) (w : World) (hr : Rd w w.heap.size 3 A l.length (rtCells l)) (hx : Rd w w.heap.size 1 PA x.length (x.map strV)) (hxc : x.length ≤ pc) (hxn : x.length ≤ 9223372036854775807) (hxs : ∀ s ∈ x, s.length ≤ 1000000000000000) (hl60 : l.length ≤ 60) (hls : ∀ r ∈ l, r.m.length ≤ 1000000000000000 ∧ r.p.length ≤ 1000000000000000) (hw : HB w) (hli : lightL x = true) :
    Calls Tryd.prog 4 #[.slice A l.length c, .int .i64 n, .slice PA x.length pc] w fun e w' => e = .returned (.bool true) ∧ Below w.heap.size w w' := by
  have HX := Lib.hid hx
  have HR := Lib.hid hr
  have HF := Lib.hid (fit_any w hw)
  have HLT := Lib.hid (fun wx (h : Below w.heap.size w wx) => light_any x PA pc wx ((hx.below h (Nat.le_refl _)).wide h.size) hxn hxs)
  have HSM := Lib.hid (fun wx (h : Below w.heap.size w wx) => some_any l A c wx ((hr.below h (Nat.le_refl _)).wide h.size) (hw.below h) (by omega) hls)
  have hlaw := law_of l
  obtain ⟨hx12, hx1000⟩ := light_le hli
  have HPT := Lib.hid (fun wx (h : Below w.heap.size w wx) => Pth.of (c := pc) ((hx.below h (Nat.le_refl _)).wide h.size) hxc (by omega) (fun s hs => by have := hx1000 s hs; omega))
  rw [hli] at HLT
  generalize someL l = L at *
  have HLW := Lib.hid hlaw
  have HL24 := hlaw.len
  clear hr hx hxs hls hw hlaw hx1000 hli
  have hand := i64_and16 n
  obtain ⟨nL, hnL⟩ : ∃ nL, L.length = nL := ⟨_, rfl⟩
  obtain ⟨k, hk⟩ : ∃ k : Nat, n % 65536 % ((nL : Int) + 1) = (k : Int) := ⟨(n % 65536 % ((nL : Int) + 1)).toNat, by have := Int.emod_nonneg (n % 65536) (b := (nL : Int) + 1) (by omega); omega⟩
  have hkl : k ≤ nL := by
    have := Int.emod_lt_of_pos (n % 65536) (b := (nL : Int) + 1) (by omega)
    omega
  rw [hnL] at HL24
  have hn0 : ((nL : Int) + 1 == 0) = false := by rw [beq_eq_false_iff_ne]; omega
  have hwr : IntKind.i64.wrap ((nL : Int) + 1) = (nL : Int) + 1 := by rw [IntKind.wrap_i64]; omega
  go_enter Tryd.func4, Tryd.ntmps4
  go_wp2_with fail
  refine HF.out.mono ?_
  rintro e w1 ⟨rfl, hb1⟩
  have HB1 := Lib.hid hb1
  clear hb1
  go_wp2_with fail
  refine (HLT.out w1 HB1.out).mono ?_
  rintro e w2 ⟨rfl, rfl⟩
  go_wp2_with fail
  refine (HSM.out _ HB1.out).mono ?_
  rintro e w3 ⟨sv, rfl, hown3, hb3⟩
  obtain ⟨oa, oc, rfl, hcap, hr3⟩ := Rd.ownc hown3
  rw [hnL] at hcap
  have HB3 := Lib.hid (bt HB1.out hb3)
  have HR3 := Lib.hid hr3
  clear hown3 hb3
  rw [hnL]
  have hk1 : (k : Int) ≤ (nL : Int) := by omega
  have hk3 : (k : Int) ≤ (oc : Int) := by omega
  have hk4 : k ≤ oc := by omega
  have hk6 : (0 : Int) ≤ (k : Int) := by omega
  have hk7 : (nL : Int) ≤ (oc : Int) := by omega
  have hTl : (L.take k).length = k := by rw [List.length_take]; omega
  have hDl : (L.drop k).length = nL - k := by rw [List.length_drop]; omega
  have HP1 : Hid (∀ r ∈ L.take k, (patL r.p).isSome = true ∧ r.p.length ≤ 10000) := fun r hr => HLW.out.pat r (List.mem_of_mem_take hr)
  have HP2 : Hid (∀ r ∈ L.drop k, (patL r.p).isSome = true ∧ r.p.length ≤ 10000) := fun r hr => HLW.out.pat r (List.mem_of_mem_drop hr)
  have hcases : (∃ a : Addr, oa = some a) ∨ (oa = none ∧ L = []) := by
    cases oa with
    | some a => exact .inl ⟨a, rfl⟩
    | none =>
      refine .inr ⟨rfl, ?_⟩
      by_cases h0 : L.length = 0
      · exact List.eq_nil_of_length_eq_zero h0
      · obtain ⟨_, e, _⟩ := hr3.2 h0; cases e
  have HDT : Hid (∀ wx, Below w3.heap.size w3 wx → Rd wx wx.heap.size 3 oa (L.take k).length (rtCells (L.take k))) := fun wx h => rdt_take ((HR3.out.below h (Nat.le_refl _)).wide h.size) k
  have HDD : Hid (∀ a : Addr, oa = some a → ∀ wx, Below w3.heap.size w3 wx → Rd wx wx.heap.size 3 (some (a.add (k * 3))) (L.drop k).length (rtCells (L.drop k))) := fun a ha wx h => rdt_drop (by rw [← ha]; exact (HR3.out.below h (Nat.le_refl _)).wide h.size) k
  have HWA : Hid (∀ v K, Hid (K.length ≤ 24) → ∀ cx wx, Below w3.heap.size w3 wx → Tr wx wx.heap.size v K → Calls Tryd.prog 12 #[.pointer v, .slice oa k cx] wx fun e w' => ∃ g, e = .returned (.pointer (some ⟨g, 0, none⟩)) ∧ Tr w' w'.heap.size (some ⟨g, 0, none⟩) (K ++ L.take k) ∧ Below wx.heap.size wx w') := fun v K hK cx wx h ht => by
    have := with_any v K (L.take k) oa cx wx ht (HDT.out wx h) HP1.out (by have := hK.out; omega)
    rwa [hTl] at this
  have HWD : Hid (∀ DA, (∀ wx, Below w3.heap.size w3 wx → Rd wx wx.heap.size 3 DA (L.drop k).length (rtCells (L.drop k))) → ∀ v K, Hid (K.length ≤ 24) → ∀ cx wx, Below w3.heap.size w3 wx → Tr wx wx.heap.size v K → Calls Tryd.prog 12 #[.pointer v, .slice DA (nL - k) cx] wx fun e w' => ∃ g, e = .returned (.pointer (some ⟨g, 0, none⟩)) ∧ Tr w' w'.heap.size (some ⟨g, 0, none⟩) (K ++ L.drop k) ∧ Below wx.heap.size wx w') := fun DA hDA v K hK cx wx h ht => by
    have := with_any v K (L.drop k) DA cx wx ht (hDA wx h) HP2.out (by have := hK.out; omega)
    rwa [hDl] at this
  have HCA := Lib.hid hcases
  clear hcases hr3
  have HK0 : Hid (([] : List Rt).length ≤ 24) := by show _ ≤ _; decide
  have HKA : Hid ((L.take k).length ≤ 24) := by show _ ≤ _; omega
  have HKD : Hid ((L.drop k).length ≤ 24) := by show _ ≤ _; omega
  have HTD := Lib.hid (List.take_append_drop k L)
  have hperm : L.Perm (L.drop k ++ L.take k) := by
    have := @List.perm_append_comm _ (L.take k) (L.drop k)
    rwa [List.take_append_drop] at this
  have HLA := Lib.hid (HLW.out.sub (List.take_sublist k L))
  have HLC := Lib.hid (HLW.out.perm hperm)
  have HMP := Lib.hid (match_perm HLW.out hperm (ByteArray.mk #[71, 69, 84]).data.toList x)
  have HT0 : Hid ((matchL (ByteArray.mk #[71, 69, 84]).data.toList x []).ok = false) := rfl
  have HFA := Lib.hid (mt_few HLA.out (ByteArray.mk #[71, 69, 84]).data.toList x)
  have HFL := Lib.hid (mt_few HLW.out (ByteArray.mk #[71, 69, 84]).data.toList x)
  have HLLA := Lib.hid hTl
  have HLLC : Hid ((L.drop k ++ L.take k).length = nL) := by show _ = _; rw [← hperm.length_eq]; exact hnL
  have HLLL := Lib.hid hnL
  clear hperm hTl hDl
  have HG : Hid (∃ DA dc, (∀ wx, Below w3.heap.size w3 wx → Rd wx wx.heap.size 3 DA (L.drop k).length (rtCells (L.drop k))) ∧ ((DA = none ∧ oa = none ∧ dc = oc ∧ nL = 0 ∧ k = 0) ∨ (∃ a, oa = some a ∧ DA = some a ∧ dc = 0 ∧ oc = k) ∨ (∃ a, oa = some a ∧ DA = some (a.add (k * 3)) ∧ dc = oc - k ∧ oc ≠ k))) := by
    show ∃ _, _
    rcases HCA.out with ⟨a, rfl⟩ | ⟨rfl, h⟩
    · by_cases hock : oc = k
      · refine ⟨some a, 0, fun wx h => ⟨by rw [rt_len], fun h0 => absurd (by rw [List.length_drop]; omega) h0⟩, .inr (.inl ⟨a, rfl, rfl, rfl, hock⟩)⟩
      · exact ⟨_, _, HDD.out a rfl, .inr (.inr ⟨a, rfl, rfl, rfl, hock⟩)⟩
    · have h0 : nL = 0 := by rw [← hnL, h]; rfl
      exact ⟨none, oc, fun wx _ => by rw [h, List.drop_nil]; exact rdt_none none, .inl ⟨rfl, rfl, rfl, h0, by omega⟩⟩
  obtain ⟨DA, dc, hDA, hDC⟩ := HG.out
  have HD := Lib.hid (fun v K hK wx h ht => HWD.out DA hDA v K hK dc wx h ht)
  clear hDA HG HWD HDD HDT HCA HR3 HR HX HSM HF HLT
  have HMA : Hid (∀ v wx, Below w3.heap.size w3 wx → Tr wx wx.heap.size v (L.take k) → Calls Tryd.prog 14 #[.pointer v, .string ⟨#[71, 69, 84]⟩, .slice PA x.length pc] wx fun e w' => MtRet (matchL (ByteArray.mk #[71, 69, 84]).data.toList x (L.take k)) e w' ∧ Below wx.heap.size wx w') := fun v wx h ht =>
    match_any v (L.take k) (ByteArray.mk #[71, 69, 84]) PA x.length pc x wx ht HLA.out.good HLA.out.apart (HPT.out wx (bt HB3.out h)) (by have := HKA.out; omega)
  have HMB : Hid (∀ v wx, Below w3.heap.size w3 wx → Tr wx wx.heap.size v L → Calls Tryd.prog 14 #[.pointer v, .string ⟨#[71, 69, 84]⟩, .slice PA x.length pc] wx fun e w' => MtRet (matchL (ByteArray.mk #[71, 69, 84]).data.toList x L) e w' ∧ Below wx.heap.size wx w') := fun v wx h ht =>
    match_any v L (ByteArray.mk #[71, 69, 84]) PA x.length pc x wx ht HLW.out.good HLW.out.apart (HPT.out wx (bt HB3.out h)) (by have := HLLL.out; omega)
  have HMC : Hid (∀ v wx, Below w3.heap.size w3 wx → Tr wx wx.heap.size v (L.drop k ++ L.take k) → Calls Tryd.prog 14 #[.pointer v, .string ⟨#[71, 69, 84]⟩, .slice PA x.length pc] wx fun e w' => MtRet (matchL (ByteArray.mk #[71, 69, 84]).data.toList x L) e w' ∧ Below wx.heap.size wx w') := fun v wx h ht => by
    have := match_any v (L.drop k ++ L.take k) (ByteArray.mk #[71, 69, 84]) PA x.length pc x wx ht HLC.out.good HLC.out.apart (HPT.out wx (bt HB3.out h)) (by have := HLLC.out; omega)
    rwa [HMP.out] at this
  have HMN : Hid (∀ wx, Calls Tryd.prog 14 #[.pointer none, .string ⟨#[71, 69, 84]⟩, .slice PA x.length pc] wx fun e w' => MtRet (matchL (ByteArray.mk #[71, 69, 84]).data.toList x []) e w' ∧ Below wx.heap.size wx w') := fun wx => match_nil _ _ _ _ _ _
  have HLNA : Hid (∀ v wx, Tr wx wx.heap.size v (L.take k) → Calls Tryd.prog 17 #[.pointer v] wx fun e w' => e = .returned (.int .i64 k) ∧ wx = w') := fun v wx h => by
    have := len_any _ v _ wx h
    rwa [HLLA.out] at this
  have HLNB : Hid (∀ v wx, Tr wx wx.heap.size v L → Calls Tryd.prog 17 #[.pointer v] wx fun e w' => e = .returned (.int .i64 nL) ∧ wx = w') := fun v wx h => by
    have := len_any _ v _ wx h
    rwa [HLLL.out] at this
  have HLNC : Hid (∀ v wx, Tr wx wx.heap.size v (L.drop k ++ L.take k) → Calls Tryd.prog 17 #[.pointer v] wx fun e w' => e = .returned (.int .i64 nL) ∧ wx = w') := fun v wx h => by
    have := len_any _ v _ wx h
    rwa [HLLC.out] at this
  have HLNN : Hid (∀ wx, Calls Tryd.prog 17 #[.pointer none] wx fun e w' => e = .returned (.int .i64 0) ∧ wx = w') := fun wx => len_any wx.heap.size none [] wx (Tr.nil _ _)
  clear HMP HPT
  generalize matchL (ByteArray.mk #[71, 69, 84]).data.toList x (L.take k) = Ta at *
  generalize matchL (ByteArray.mk #[71, 69, 84]).data.toList x [] = T0 at *
  generalize matchL (ByteArray.mk #[71, 69, 84]).data.toList x L = T at *
  have HSA : Hid (∀ (P1 Q1 P2 Q2 : Option Addr) (n1 c1 m1 d1 n2 c2 m2 d2 : Nat) (wx : World), MtAt wx Ta (mkB Ta.h) P1 n1 c1 Q1 m1 d1 → MtAt wx Ta (mkB Ta.h) P2 n2 c2 Q2 m2 d2 → Calls Tryd.prog 16 #[.agg #[.string (mkB Ta.h), .slice P1 n1 c1, .slice Q1 m1 d1], .agg #[.string (mkB Ta.h), .slice P2 n2 c2, .slice Q2 m2 d2]] wx fun e w' => e = .returned (.bool true) ∧ Below wx.heap.size wx w') := fun P1 Q1 P2 Q2 n1 c1 m1 d1 n2 c2 m2 d2 wx h1 h2 => by
    have := same_any Ta Ta P1 P2 Q1 Q2 n1 c1 n2 c2 m1 d1 m2 d2 wx h1 h2 ⟨HFA.out.1, HFA.out.1, HFA.out.2, HFA.out.2⟩
    rwa [same_self] at this
  have HSB : Hid (∀ (P1 Q1 P2 Q2 : Option Addr) (n1 c1 m1 d1 n2 c2 m2 d2 : Nat) (wx : World), MtAt wx T (mkB T.h) P1 n1 c1 Q1 m1 d1 → MtAt wx T (mkB T.h) P2 n2 c2 Q2 m2 d2 → Calls Tryd.prog 16 #[.agg #[.string (mkB T.h), .slice P1 n1 c1, .slice Q1 m1 d1], .agg #[.string (mkB T.h), .slice P2 n2 c2, .slice Q2 m2 d2]] wx fun e w' => e = .returned (.bool true) ∧ Below wx.heap.size wx w') := fun P1 Q1 P2 Q2 n1 c1 m1 d1 n2 c2 m2 d2 wx h1 h2 => by
    have := same_any T T P1 P2 Q1 Q2 n1 c1 n2 c2 m1 d1 m2 d2 wx h1 h2 ⟨HFL.out.1, HFL.out.1, HFL.out.2, HFL.out.2⟩
    rwa [same_self] at this
  clear HFA HFL
  generalize hoka : Ta.ok = oka at *
  generalize hok : T.ok = ok at *
  generalize hok0 : T0.ok = ok0 at *
  have HOKA := Lib.hid hoka
  have HOK := Lib.hid hok
  have HOK0 := Lib.hid (hok0.trans HT0.out)
  generalize hta : mkB Ta.h = ta at *
  generalize htb : mkB T.h = tb at *
  have HTAB := Lib.hid hta
  have HTBB := Lib.hid htb
  clear hoka hok hok0 hta htb HT0 ok0 hnL
  rcases hDC with ⟨rfl, rfl, rfl, e0, e1⟩ | ⟨a, rfl, rfl, rfl, hoc⟩ | ⟨a, rfl, rfl, rfl, hoc⟩
  · subst e0 e1
    go_wp2_with fail
    refine (HWA.out none [] HK0 _ _ (Below.refl _ _) (Tr.nil _ _)).mono ?_
    rintro e w4 ⟨ga, rfl, hta, hb4⟩
    rw [List.nil_append] at hta
    have HTA := Lib.hid hta
    have HB4 := Lib.hid hb4
    clear hta hb4
    go_wp2_with fail
    refine (HMA.out _ w4 HB4.out HTA.out).mono ?_
    rintro e w5 ⟨⟨P1, n1, c1, Q1, m1, d1, he, hat1⟩, hb5⟩
    rw [HOKA.out, HTAB.out] at he
    rw [HTAB.out] at hat1
    subst he
    have hc9 := C3.new w5 (.string ta) (.slice P1 n1 c1) (.slice Q1 m1 d1)
    have hal := (Below.refl w5.heap.size w5).alloc (Nat.le_refl _) (.cells #[.string ta, .slice P1 n1 c1, .slice Q1 m1 d1] 32)
    have hb5b := bt hb5 hal
    have hat1b := hat1.on hal
    go_wp2_with fail
    generalize w5.alloc (.cells #[.string ta, .slice P1 n1 c1, .slice Q1 m1 d1] 32) = v5 at *
    generalize w5.heap.size = g9 at *
    have HC9 := Lib.hid hc9
    have HB5B := Lib.hid hb5b
    have HAT1 := Lib.hid hat1b
    have HBV5 := Lib.hid (bt HB4.out hb5b)
    clear hc9 hb5b hat1b hat1 hb5 hal
    refine (HD.out (some ⟨ga, 0, none⟩) (L.take 0) HKA _ HBV5.out (HTA.out.on HB5B.out)).mono ?_
    rintro e w6 ⟨gb, rfl, htb, hb6⟩
    rw [HTD.out] at htb
    have HTB := Lib.hid htb
    have HB6 := Lib.hid hb6
    have HBV6 := Lib.hid (bt HBV5.out hb6)
    clear htb hb6
    go_wp2_with fail
    have HWD0 := Lib.hid (HD.out none [] HK0 w6.drew HBV6.out.drew (Tr.nil _ _))
    go_region_held3 (fun _ => True) (trivial) ((first
      | (go_at_call 12; refine (HWA.out (some ⟨gc0, 0, none⟩) (L.drop 0) HKD _ _ (bt HBV6.out.drew hb7) ht7).mono ?_; rintro e w8 ⟨gc, rfl, ht8, hb8⟩)
      | (go_at_call 12; refine HWD0.out.mono ?_; rintro e w7 ⟨gc0, rfl, ht7, hb7⟩; rw [List.nil_append] at ht7)))
    have HB8 := Lib.hid (bt ((Below.refl w6.heap.size w6).drew.trans hb7) hb8)
    have HTC := Lib.hid ht8
    have HBV8 := Lib.hid (bt HBV6.out HB8.out)
    clear hb7 hb8 ht7 ht8 HWD0 HWA HD
    go_wp2_with fail
    refine (HMA.out _ w8 HBV8.out (HTA.out.on (bt HB5B.out (bt HB6.out HB8.out)))).mono ?_
    rintro e w9 ⟨⟨P2, n2, c2, Q2, m2, d2, he, hat2⟩, hb9⟩
    rw [HOKA.out, HTAB.out] at he
    rw [HTAB.out] at hat2
    subst he
    have hc12 := C3.new w9 (.string ta) (.slice P2 n2 c2) (.slice Q2 m2 d2)
    have hal := (Below.refl w9.heap.size w9).alloc (Nat.le_refl _) (.cells #[.string ta, .slice P2 n2 c2, .slice Q2 m2 d2] 32)
    have hb9b := bt hb9 hal
    have hat2b := hat2.on hal
    go_wp2_with fail
    generalize w9.alloc (.cells #[.string ta, .slice P2 n2 c2, .slice Q2 m2 d2] 32) = v9 at *
    generalize w9.heap.size = g12 at *
    have HC12 := Lib.hid hc12
    have HB9B := Lib.hid hb9b
    have HAT2 := Lib.hid hat2b
    have HBV9 := Lib.hid (bt HBV8.out hb9b)
    clear hc12 hb9b hat2b hat2 hb9 hal
    refine (HMB.out _ v9 HBV9.out (HTB.out.on (bt HB8.out HB9B.out))).mono ?_
    rintro e w10 ⟨⟨P3, n3, c3, Q3, m3, d3, he, hat3⟩, hb10⟩
    rw [HOK.out, HTBB.out] at he
    rw [HTBB.out] at hat3
    subst he
    have hc13 := C3.new w10 (.string tb) (.slice P3 n3 c3) (.slice Q3 m3 d3)
    have hal := (Below.refl w10.heap.size w10).alloc (Nat.le_refl _) (.cells #[.string tb, .slice P3 n3 c3, .slice Q3 m3 d3] 32)
    have hb10b := bt hb10 hal
    have hat3b := hat3.on hal
    go_wp2_with fail
    generalize w10.alloc (.cells #[.string tb, .slice P3 n3 c3, .slice Q3 m3 d3] 32) = v10 at *
    generalize w10.heap.size = g13 at *
    have HC13 := Lib.hid hc13
    have HB10B := Lib.hid hb10b
    have HAT3 := Lib.hid hat3b
    have HBV10 := Lib.hid (bt HBV9.out hb10b)
    clear hc13 hb10b hat3b hat3 hb10 hal
    refine (HMC.out _ v10 HBV10.out (HTC.out.on (bt HB9B.out HB10B.out))).mono ?_
    rintro e w11 ⟨⟨P4, n4, c4, Q4, m4, d4, he, hat4⟩, hb11⟩
    rw [HOK.out, HTBB.out] at he
    rw [HTBB.out] at hat4
    subst he
    have hc14 := C3.new w11 (.string tb) (.slice P4 n4 c4) (.slice Q4 m4 d4)
    have hal := (Below.refl w11.heap.size w11).alloc (Nat.le_refl _) (.cells #[.string tb, .slice P4 n4 c4, .slice Q4 m4 d4] 32)
    have hb11b := bt hb11 hal
    have hat4b := hat4.on hal
    go_wp2_with fail
    generalize w11.alloc (.cells #[.string tb, .slice P4 n4 c4, .slice Q4 m4 d4] 32) = v11 at *
    generalize w11.heap.size = g14 at *
    have HC14 := Lib.hid hc14
    have HB11B := Lib.hid hb11b
    have HAT4 := Lib.hid hat4b
    have HBV11 := Lib.hid (bt HBV10.out hb11b)
    clear hc14 hb11b hat4b hat4 hb11 hal
    refine (HMN.out v11).mono ?_
    rintro e w12 ⟨⟨P5, n5, c5, Q5, m5, d5, he, hat5⟩, hb12⟩
    rw [HOK0.out] at he
    subst he
    generalize mkB T0.h = t0 at *
    have hb12b := bt hb12 ((Below.refl w12.heap.size w12).alloc (Nat.le_refl _) (.cells #[.string t0, .slice P5 n5 c5, .slice Q5 m5 d5] 32))
    have HF1 := Lib.hid (bt HB11B.out hb12b)
    have HF2 := Lib.hid (bt HB10B.out HF1.out)
    have HF3 := Lib.hid (bt HB9B.out HF2.out)
    have HF4 := Lib.hid (bt HB8.out HF3.out)
    have HF5 := Lib.hid (bt HB6.out HF4.out)
    have HF6 := Lib.hid (bt HB5B.out HF5.out)
    have HFF := Lib.hid (bt HB3.out (bt HB4.out HF6.out))
    have HXA := Lib.hid (HTA.out.on HF6.out)
    have HXB := Lib.hid (HTB.out.on HF4.out)
    have HXC := Lib.hid (HTC.out.on HF3.out)
    have HX1 := Lib.hid (HAT1.out.on HF5.out)
    have HX2 := Lib.hid (HAT2.out.on HF2.out)
    have HX3 := Lib.hid (HAT3.out.on HF1.out)
    have HX4 := Lib.hid (HAT4.out.on hb12b)
    have HY13 := Lib.hid (HC13.out.on HF1.out)
    have HY14 := Lib.hid (HC14.out.on hb12b)
    obtain ⟨_, p0, p1, p2⟩ := HC9.out.on HF5.out
    obtain ⟨_, q0, q1, q2⟩ := HC12.out.on HF2.out
    clear hat5 hb12 hb12b
    go_wp2_with fail
    generalize w12.alloc (.cells #[.string t0, .slice P5 n5 c5, .slice Q5 m5 d5] 32) = v12 at *
    clear p0 p1 p2 q0 q1 q2
    refine (HSA.out P1 Q1 P2 Q2 n1 c1 m1 d1 n2 c2 m2 d2 v12 HX1.out HX2.out).mono ?_
    rintro e w20 ⟨rfl, hb20⟩
    have HB20 := Lib.hid hb20
    clear hb20
    go_wp2_with fail
    refine (HLNA.out _ w20 (HXA.out.on HB20.out)).mono ?_
    rintro e w21 ⟨rfl, rfl⟩
    obtain ⟨_, p0, p1, p2⟩ := HY13.out.on HB20.out
    obtain ⟨_, q0, q1, q2⟩ := HY14.out.on HB20.out
    have HSC := Lib.hid (HSB.out P3 Q3 P4 Q4 n3 c3 m3 d3 n4 c4 m4 d4 w20 (HX3.out.on HB20.out) (HX4.out.on HB20.out))
    cases ok
    · go_wp2_with fail
      refine HSC.out.mono ?_
      rintro e w22 ⟨rfl, hb22⟩
      have HB22 := Lib.hid (bt HB20.out hb22)
      clear hb22 p0 p1 p2 q0 q1 q2
      go_wp2_with fail
      refine (HLNB.out _ w22 (HXB.out.on HB22.out)).mono ?_
      rintro e w23 ⟨rfl, rfl⟩
      go_wp2_with fail
      refine (HLNC.out _ _ (HXC.out.on HB22.out)).mono ?_
      rintro e w24 ⟨rfl, rfl⟩
      go_wp2_with fail
      refine (HLNN.out _).mono ?_
      rintro e w25 ⟨rfl, rfl⟩
      go_wp2_with fail
      go_ret
      exact ⟨rfl, bt HFF.out HB22.out⟩
    · go_wp2_with fail
      clear p0 p1 p2 q0 q1 q2
      refine (HLNB.out _ w20 (HXB.out.on HB20.out)).mono ?_
      rintro e w23 ⟨rfl, rfl⟩
      go_wp2_with fail
      refine (HLNC.out _ _ (HXC.out.on HB20.out)).mono ?_
      rintro e w24 ⟨rfl, rfl⟩
      go_wp2_with fail
      refine (HLNN.out _).mono ?_
      rintro e w25 ⟨rfl, rfl⟩
      go_wp2_with fail
      go_ret
      exact ⟨rfl, bt HFF.out HB20.out⟩
  · go_wp2_with fail
    refine (HWA.out none [] HK0 _ _ (Below.refl _ _) (Tr.nil _ _)).mono ?_
    rintro e w4 ⟨ga, rfl, hta, hb4⟩
    rw [List.nil_append] at hta
    have HTA := Lib.hid hta
    have HB4 := Lib.hid hb4
    clear hta hb4
    go_wp2_with fail
    refine (HMA.out _ w4 HB4.out HTA.out).mono ?_
    rintro e w5 ⟨⟨P1, n1, c1, Q1, m1, d1, he, hat1⟩, hb5⟩
    rw [HOKA.out, HTAB.out] at he
    rw [HTAB.out] at hat1
    subst he
    have hc9 := C3.new w5 (.string ta) (.slice P1 n1 c1) (.slice Q1 m1 d1)
    have hal := (Below.refl w5.heap.size w5).alloc (Nat.le_refl _) (.cells #[.string ta, .slice P1 n1 c1, .slice Q1 m1 d1] 32)
    have hb5b := bt hb5 hal
    have hat1b := hat1.on hal
    go_wp2_with fail
    generalize w5.alloc (.cells #[.string ta, .slice P1 n1 c1, .slice Q1 m1 d1] 32) = v5 at *
    generalize w5.heap.size = g9 at *
    have HC9 := Lib.hid hc9
    have HB5B := Lib.hid hb5b
    have HAT1 := Lib.hid hat1b
    have HBV5 := Lib.hid (bt HB4.out hb5b)
    clear hc9 hb5b hat1b hat1 hb5 hal
    refine (HD.out (some ⟨ga, 0, none⟩) (L.take k) HKA _ HBV5.out (HTA.out.on HB5B.out)).mono ?_
    rintro e w6 ⟨gb, rfl, htb, hb6⟩
    rw [HTD.out] at htb
    have HTB := Lib.hid htb
    have HB6 := Lib.hid hb6
    have HBV6 := Lib.hid (bt HBV5.out hb6)
    clear htb hb6
    go_wp2_with fail
    have HWD0 := Lib.hid (HD.out none [] HK0 w6.drew HBV6.out.drew (Tr.nil _ _))
    go_region_held3 (fun _ => True) (trivial) ((first
      | (go_at_call 12; refine (HWA.out (some ⟨gc0, 0, none⟩) (L.drop k) HKD _ _ (bt HBV6.out.drew hb7) ht7).mono ?_; rintro e w8 ⟨gc, rfl, ht8, hb8⟩)
      | (go_at_call 12; refine HWD0.out.mono ?_; rintro e w7 ⟨gc0, rfl, ht7, hb7⟩; rw [List.nil_append] at ht7)))
    have HB8 := Lib.hid (bt ((Below.refl w6.heap.size w6).drew.trans hb7) hb8)
    have HTC := Lib.hid ht8
    have HBV8 := Lib.hid (bt HBV6.out HB8.out)
    clear hb7 hb8 ht7 ht8 HWD0 HWA HD
    go_wp2_with fail
    refine (HMA.out _ w8 HBV8.out (HTA.out.on (bt HB5B.out (bt HB6.out HB8.out)))).mono ?_
    rintro e w9 ⟨⟨P2, n2, c2, Q2, m2, d2, he, hat2⟩, hb9⟩
    rw [HOKA.out, HTAB.out] at he
    rw [HTAB.out] at hat2
    subst he
    have hc12 := C3.new w9 (.string ta) (.slice P2 n2 c2) (.slice Q2 m2 d2)
    have hal := (Below.refl w9.heap.size w9).alloc (Nat.le_refl _) (.cells #[.string ta, .slice P2 n2 c2, .slice Q2 m2 d2] 32)
    have hb9b := bt hb9 hal
    have hat2b := hat2.on hal
    go_wp2_with fail
    generalize w9.alloc (.cells #[.string ta, .slice P2 n2 c2, .slice Q2 m2 d2] 32) = v9 at *
    generalize w9.heap.size = g12 at *
    have HC12 := Lib.hid hc12
    have HB9B := Lib.hid hb9b
    have HAT2 := Lib.hid hat2b
    have HBV9 := Lib.hid (bt HBV8.out hb9b)
    clear hc12 hb9b hat2b hat2 hb9 hal
    refine (HMB.out _ v9 HBV9.out (HTB.out.on (bt HB8.out HB9B.out))).mono ?_
    rintro e w10 ⟨⟨P3, n3, c3, Q3, m3, d3, he, hat3⟩, hb10⟩
    rw [HOK.out, HTBB.out] at he
    rw [HTBB.out] at hat3
    subst he
    have hc13 := C3.new w10 (.string tb) (.slice P3 n3 c3) (.slice Q3 m3 d3)
    have hal := (Below.refl w10.heap.size w10).alloc (Nat.le_refl _) (.cells #[.string tb, .slice P3 n3 c3, .slice Q3 m3 d3] 32)
    have hb10b := bt hb10 hal
    have hat3b := hat3.on hal
    go_wp2_with fail
    generalize w10.alloc (.cells #[.string tb, .slice P3 n3 c3, .slice Q3 m3 d3] 32) = v10 at *
    generalize w10.heap.size = g13 at *
    have HC13 := Lib.hid hc13
    have HB10B := Lib.hid hb10b
    have HAT3 := Lib.hid hat3b
    have HBV10 := Lib.hid (bt HBV9.out hb10b)
    clear hc13 hb10b hat3b hat3 hb10 hal
    refine (HMC.out _ v10 HBV10.out (HTC.out.on (bt HB9B.out HB10B.out))).mono ?_
    rintro e w11 ⟨⟨P4, n4, c4, Q4, m4, d4, he, hat4⟩, hb11⟩
    rw [HOK.out, HTBB.out] at he
    rw [HTBB.out] at hat4
    subst he
    have hc14 := C3.new w11 (.string tb) (.slice P4 n4 c4) (.slice Q4 m4 d4)
    have hal := (Below.refl w11.heap.size w11).alloc (Nat.le_refl _) (.cells #[.string tb, .slice P4 n4 c4, .slice Q4 m4 d4] 32)
    have hb11b := bt hb11 hal
    have hat4b := hat4.on hal
    go_wp2_with fail
    generalize w11.alloc (.cells #[.string tb, .slice P4 n4 c4, .slice Q4 m4 d4] 32) = v11 at *
    generalize w11.heap.size = g14 at *
    have HC14 := Lib.hid hc14
    have HB11B := Lib.hid hb11b
    have HAT4 := Lib.hid hat4b
    have HBV11 := Lib.hid (bt HBV10.out hb11b)
    clear hc14 hb11b hat4b hat4 hb11 hal
    refine (HMN.out v11).mono ?_
    rintro e w12 ⟨⟨P5, n5, c5, Q5, m5, d5, he, hat5⟩, hb12⟩
    rw [HOK0.out] at he
    subst he
    generalize mkB T0.h = t0 at *
    have hb12b := bt hb12 ((Below.refl w12.heap.size w12).alloc (Nat.le_refl _) (.cells #[.string t0, .slice P5 n5 c5, .slice Q5 m5 d5] 32))
    have HF1 := Lib.hid (bt HB11B.out hb12b)
    have HF2 := Lib.hid (bt HB10B.out HF1.out)
    have HF3 := Lib.hid (bt HB9B.out HF2.out)
    have HF4 := Lib.hid (bt HB8.out HF3.out)
    have HF5 := Lib.hid (bt HB6.out HF4.out)
    have HF6 := Lib.hid (bt HB5B.out HF5.out)
    have HFF := Lib.hid (bt HB3.out (bt HB4.out HF6.out))
    have HXA := Lib.hid (HTA.out.on HF6.out)
    have HXB := Lib.hid (HTB.out.on HF4.out)
    have HXC := Lib.hid (HTC.out.on HF3.out)
    have HX1 := Lib.hid (HAT1.out.on HF5.out)
    have HX2 := Lib.hid (HAT2.out.on HF2.out)
    have HX3 := Lib.hid (HAT3.out.on HF1.out)
    have HX4 := Lib.hid (HAT4.out.on hb12b)
    have HY13 := Lib.hid (HC13.out.on HF1.out)
    have HY14 := Lib.hid (HC14.out.on hb12b)
    obtain ⟨_, p0, p1, p2⟩ := HC9.out.on HF5.out
    obtain ⟨_, q0, q1, q2⟩ := HC12.out.on HF2.out
    clear hat5 hb12 hb12b
    go_wp2_with fail
    generalize w12.alloc (.cells #[.string t0, .slice P5 n5 c5, .slice Q5 m5 d5] 32) = v12 at *
    clear p0 p1 p2 q0 q1 q2
    refine (HSA.out P1 Q1 P2 Q2 n1 c1 m1 d1 n2 c2 m2 d2 v12 HX1.out HX2.out).mono ?_
    rintro e w20 ⟨rfl, hb20⟩
    have HB20 := Lib.hid hb20
    clear hb20
    go_wp2_with fail
    refine (HLNA.out _ w20 (HXA.out.on HB20.out)).mono ?_
    rintro e w21 ⟨rfl, rfl⟩
    obtain ⟨_, p0, p1, p2⟩ := HY13.out.on HB20.out
    obtain ⟨_, q0, q1, q2⟩ := HY14.out.on HB20.out
    have HSC := Lib.hid (HSB.out P3 Q3 P4 Q4 n3 c3 m3 d3 n4 c4 m4 d4 w20 (HX3.out.on HB20.out) (HX4.out.on HB20.out))
    cases ok
    · go_wp2_with fail
      refine HSC.out.mono ?_
      rintro e w22 ⟨rfl, hb22⟩
      have HB22 := Lib.hid (bt HB20.out hb22)
      clear hb22 p0 p1 p2 q0 q1 q2
      go_wp2_with fail
      refine (HLNB.out _ w22 (HXB.out.on HB22.out)).mono ?_
      rintro e w23 ⟨rfl, rfl⟩
      go_wp2_with fail
      refine (HLNC.out _ _ (HXC.out.on HB22.out)).mono ?_
      rintro e w24 ⟨rfl, rfl⟩
      go_wp2_with fail
      refine (HLNN.out _).mono ?_
      rintro e w25 ⟨rfl, rfl⟩
      go_wp2_with fail
      go_ret
      exact ⟨rfl, bt HFF.out HB22.out⟩
    · go_wp2_with fail
      clear p0 p1 p2 q0 q1 q2
      refine (HLNB.out _ w20 (HXB.out.on HB20.out)).mono ?_
      rintro e w23 ⟨rfl, rfl⟩
      go_wp2_with fail
      refine (HLNC.out _ _ (HXC.out.on HB20.out)).mono ?_
      rintro e w24 ⟨rfl, rfl⟩
      go_wp2_with fail
      refine (HLNN.out _).mono ?_
      rintro e w25 ⟨rfl, rfl⟩
      go_wp2_with fail
      go_ret
      exact ⟨rfl, bt HFF.out HB20.out⟩
  · go_wp2_with fail
    refine (HWA.out none [] HK0 _ _ (Below.refl _ _) (Tr.nil _ _)).mono ?_
    rintro e w4 ⟨ga, rfl, hta, hb4⟩
    rw [List.nil_append] at hta
    have HTA := Lib.hid hta
    have HB4 := Lib.hid hb4
    clear hta hb4
    go_wp2_with fail
    refine (HMA.out _ w4 HB4.out HTA.out).mono ?_
    rintro e w5 ⟨⟨P1, n1, c1, Q1, m1, d1, he, hat1⟩, hb5⟩
    rw [HOKA.out, HTAB.out] at he
    rw [HTAB.out] at hat1
    subst he
    have hc9 := C3.new w5 (.string ta) (.slice P1 n1 c1) (.slice Q1 m1 d1)
    have hal := (Below.refl w5.heap.size w5).alloc (Nat.le_refl _) (.cells #[.string ta, .slice P1 n1 c1, .slice Q1 m1 d1] 32)
    have hb5b := bt hb5 hal
    have hat1b := hat1.on hal
    go_wp2_with fail
    generalize w5.alloc (.cells #[.string ta, .slice P1 n1 c1, .slice Q1 m1 d1] 32) = v5 at *
    generalize w5.heap.size = g9 at *
    have HC9 := Lib.hid hc9
    have HB5B := Lib.hid hb5b
    have HAT1 := Lib.hid hat1b
    have HBV5 := Lib.hid (bt HB4.out hb5b)
    clear hc9 hb5b hat1b hat1 hb5 hal
    refine (HD.out (some ⟨ga, 0, none⟩) (L.take k) HKA _ HBV5.out (HTA.out.on HB5B.out)).mono ?_
    rintro e w6 ⟨gb, rfl, htb, hb6⟩
    rw [HTD.out] at htb
    have HTB := Lib.hid htb
    have HB6 := Lib.hid hb6
    have HBV6 := Lib.hid (bt HBV5.out hb6)
    clear htb hb6
    go_wp2_with fail
    have HWD0 := Lib.hid (HD.out none [] HK0 w6.drew HBV6.out.drew (Tr.nil _ _))
    go_region_held3 (fun _ => True) (trivial) ((first
      | (go_at_call 12; refine (HWA.out (some ⟨gc0, 0, none⟩) (L.drop k) HKD _ _ (bt HBV6.out.drew hb7) ht7).mono ?_; rintro e w8 ⟨gc, rfl, ht8, hb8⟩)
      | (go_at_call 12; refine HWD0.out.mono ?_; rintro e w7 ⟨gc0, rfl, ht7, hb7⟩; rw [List.nil_append] at ht7)))
    have HB8 := Lib.hid (bt ((Below.refl w6.heap.size w6).drew.trans hb7) hb8)
    have HTC := Lib.hid ht8
    have HBV8 := Lib.hid (bt HBV6.out HB8.out)
    clear hb7 hb8 ht7 ht8 HWD0 HWA HD
    go_wp2_with fail
    refine (HMA.out _ w8 HBV8.out (HTA.out.on (bt HB5B.out (bt HB6.out HB8.out)))).mono ?_
    rintro e w9 ⟨⟨P2, n2, c2, Q2, m2, d2, he, hat2⟩, hb9⟩
    rw [HOKA.out, HTAB.out] at he
    rw [HTAB.out] at hat2
    subst he
    have hc12 := C3.new w9 (.string ta) (.slice P2 n2 c2) (.slice Q2 m2 d2)
    have hal := (Below.refl w9.heap.size w9).alloc (Nat.le_refl _) (.cells #[.string ta, .slice P2 n2 c2, .slice Q2 m2 d2] 32)
    have hb9b := bt hb9 hal
    have hat2b := hat2.on hal
    go_wp2_with fail
    generalize w9.alloc (.cells #[.string ta, .slice P2 n2 c2, .slice Q2 m2 d2] 32) = v9 at *
    generalize w9.heap.size = g12 at *
    have HC12 := Lib.hid hc12
    have HB9B := Lib.hid hb9b
    have HAT2 := Lib.hid hat2b
    have HBV9 := Lib.hid (bt HBV8.out hb9b)
    clear hc12 hb9b hat2b hat2 hb9 hal
    refine (HMB.out _ v9 HBV9.out (HTB.out.on (bt HB8.out HB9B.out))).mono ?_
    rintro e w10 ⟨⟨P3, n3, c3, Q3, m3, d3, he, hat3⟩, hb10⟩
    rw [HOK.out, HTBB.out] at he
    rw [HTBB.out] at hat3
    subst he
    have hc13 := C3.new w10 (.string tb) (.slice P3 n3 c3) (.slice Q3 m3 d3)
    have hal := (Below.refl w10.heap.size w10).alloc (Nat.le_refl _) (.cells #[.string tb, .slice P3 n3 c3, .slice Q3 m3 d3] 32)
    have hb10b := bt hb10 hal
    have hat3b := hat3.on hal
    go_wp2_with fail
    generalize w10.alloc (.cells #[.string tb, .slice P3 n3 c3, .slice Q3 m3 d3] 32) = v10 at *
    generalize w10.heap.size = g13 at *
    have HC13 := Lib.hid hc13
    have HB10B := Lib.hid hb10b
    have HAT3 := Lib.hid hat3b
    have HBV10 := Lib.hid (bt HBV9.out hb10b)
    clear hc13 hb10b hat3b hat3 hb10 hal
    refine (HMC.out _ v10 HBV10.out (HTC.out.on (bt HB9B.out HB10B.out))).mono ?_
    rintro e w11 ⟨⟨P4, n4, c4, Q4, m4, d4, he, hat4⟩, hb11⟩
    rw [HOK.out, HTBB.out] at he
    rw [HTBB.out] at hat4
    subst he
    have hc14 := C3.new w11 (.string tb) (.slice P4 n4 c4) (.slice Q4 m4 d4)
    have hal := (Below.refl w11.heap.size w11).alloc (Nat.le_refl _) (.cells #[.string tb, .slice P4 n4 c4, .slice Q4 m4 d4] 32)
    have hb11b := bt hb11 hal
    have hat4b := hat4.on hal
    go_wp2_with fail
    generalize w11.alloc (.cells #[.string tb, .slice P4 n4 c4, .slice Q4 m4 d4] 32) = v11 at *
    generalize w11.heap.size = g14 at *
    have HC14 := Lib.hid hc14
    have HB11B := Lib.hid hb11b
    have HAT4 := Lib.hid hat4b
    have HBV11 := Lib.hid (bt HBV10.out hb11b)
    clear hc14 hb11b hat4b hat4 hb11 hal
    refine (HMN.out v11).mono ?_
    rintro e w12 ⟨⟨P5, n5, c5, Q5, m5, d5, he, hat5⟩, hb12⟩
    rw [HOK0.out] at he
    subst he
    generalize mkB T0.h = t0 at *
    have hb12b := bt hb12 ((Below.refl w12.heap.size w12).alloc (Nat.le_refl _) (.cells #[.string t0, .slice P5 n5 c5, .slice Q5 m5 d5] 32))
    have HF1 := Lib.hid (bt HB11B.out hb12b)
    have HF2 := Lib.hid (bt HB10B.out HF1.out)
    have HF3 := Lib.hid (bt HB9B.out HF2.out)
    have HF4 := Lib.hid (bt HB8.out HF3.out)
    have HF5 := Lib.hid (bt HB6.out HF4.out)
    have HF6 := Lib.hid (bt HB5B.out HF5.out)
    have HFF := Lib.hid (bt HB3.out (bt HB4.out HF6.out))
    have HXA := Lib.hid (HTA.out.on HF6.out)
    have HXB := Lib.hid (HTB.out.on HF4.out)
    have HXC := Lib.hid (HTC.out.on HF3.out)
    have HX1 := Lib.hid (HAT1.out.on HF5.out)
    have HX2 := Lib.hid (HAT2.out.on HF2.out)
    have HX3 := Lib.hid (HAT3.out.on HF1.out)
    have HX4 := Lib.hid (HAT4.out.on hb12b)
    have HY13 := Lib.hid (HC13.out.on HF1.out)
    have HY14 := Lib.hid (HC14.out.on hb12b)
    obtain ⟨_, p0, p1, p2⟩ := HC9.out.on HF5.out
    obtain ⟨_, q0, q1, q2⟩ := HC12.out.on HF2.out
    clear hat5 hb12 hb12b
    go_wp2_with fail
    generalize w12.alloc (.cells #[.string t0, .slice P5 n5 c5, .slice Q5 m5 d5] 32) = v12 at *
    clear p0 p1 p2 q0 q1 q2
    refine (HSA.out P1 Q1 P2 Q2 n1 c1 m1 d1 n2 c2 m2 d2 v12 HX1.out HX2.out).mono ?_
    rintro e w20 ⟨rfl, hb20⟩
    have HB20 := Lib.hid hb20
    clear hb20
    go_wp2_with fail
    refine (HLNA.out _ w20 (HXA.out.on HB20.out)).mono ?_
    rintro e w21 ⟨rfl, rfl⟩
    obtain ⟨_, p0, p1, p2⟩ := HY13.out.on HB20.out
    obtain ⟨_, q0, q1, q2⟩ := HY14.out.on HB20.out
    have HSC := Lib.hid (HSB.out P3 Q3 P4 Q4 n3 c3 m3 d3 n4 c4 m4 d4 w20 (HX3.out.on HB20.out) (HX4.out.on HB20.out))
    cases ok
    · go_wp2_with fail
      refine HSC.out.mono ?_
      rintro e w22 ⟨rfl, hb22⟩
      have HB22 := Lib.hid (bt HB20.out hb22)
      clear hb22 p0 p1 p2 q0 q1 q2
      go_wp2_with fail
      refine (HLNB.out _ w22 (HXB.out.on HB22.out)).mono ?_
      rintro e w23 ⟨rfl, rfl⟩
      go_wp2_with fail
      refine (HLNC.out _ _ (HXC.out.on HB22.out)).mono ?_
      rintro e w24 ⟨rfl, rfl⟩
      go_wp2_with fail
      refine (HLNN.out _).mono ?_
      rintro e w25 ⟨rfl, rfl⟩
      go_wp2_with fail
      go_ret
      exact ⟨rfl, bt HFF.out HB22.out⟩
    · go_wp2_with fail
      clear p0 p1 p2 q0 q1 q2
      refine (HLNB.out _ w20 (HXB.out.on HB20.out)).mono ?_
      rintro e w23 ⟨rfl, rfl⟩
      go_wp2_with fail
      refine (HLNC.out _ _ (HXC.out.on HB20.out)).mono ?_
      rintro e w24 ⟨rfl, rfl⟩
      go_wp2_with fail
      refine (HLNN.out _).mono ?_
      rintro e w25 ⟨rfl, rfl⟩
      go_wp2_with fail
      go_ret
      exact ⟨rfl, bt HFF.out HB20.out⟩

set_option maxRecDepth 100000 in
set_option maxHeartbeats 16000000 in
theorem keeps_out (l : List Rt) (A : Option Addr) (c : Nat) (n : Int) (x : List Seg) (PA : Option Addr) (pc : Nat) (w : World) (hl60 : ¬ l.length ≤ 60) (hln : l.length ≤ 9223372036854775807) (hw : HB w) :
    Calls Tryd.prog 4 #[.slice A l.length c, .int .i64 n, .slice PA x.length pc] w fun e w' => e = .returned (.bool true) ∧ Below w.heap.size w w' := by
  have HF := Lib.hid (fit_any w hw)
  have h60' : ¬ (l.length : Int) ≤ 60 := by omega
  clear hw
  go_enter Tryd.func4, Tryd.ntmps4
  go_wp2_with fail
  refine HF.out.mono ?_
  rintro e w1 ⟨rfl, hb1⟩
  have HB1 := Lib.hid hb1
  clear hb1
  go_wp2_with fail
  go_ret
  exact ⟨rfl, HB1.out⟩

set_option maxRecDepth 100000 in
set_option maxHeartbeats 16000000 in
theorem keeps_heavy (l : List Rt) (A : Option Addr) (c : Nat) (n : Int) (x : List Seg) (PA : Option Addr) (pc : Nat) (w : World) (hx : Rd w w.heap.size 1 PA x.length (x.map strV)) (hxn : x.length ≤ 9223372036854775807) (hxs : ∀ s ∈ x, s.length ≤ 1000000000000000) (hl60 : l.length ≤ 60) (hw : HB w) (hli : lightL x = false) :
    Calls Tryd.prog 4 #[.slice A l.length c, .int .i64 n, .slice PA x.length pc] w fun e w' => e = .returned (.bool true) ∧ Below w.heap.size w w' := by
  have HF := Lib.hid (fit_any w hw)
  have HLT := Lib.hid (fun wx (h : Below w.heap.size w wx) => light_any x PA pc wx ((hx.below h (Nat.le_refl _)).wide h.size) hxn hxs)
  rw [hli] at HLT
  clear hw hx hxs hli
  go_enter Tryd.func4, Tryd.ntmps4
  go_wp2_with fail
  refine HF.out.mono ?_
  rintro e w1 ⟨rfl, hb1⟩
  have HB1 := Lib.hid hb1
  clear hb1
  go_wp2_with fail
  refine (HLT.out w1 HB1.out).mono ?_
  rintro e w2 ⟨rfl, rfl⟩
  go_wp2_with fail
  go_ret
  exact ⟨rfl, HB1.out⟩

theorem keeps_walk (l : List Rt) (A : Option Addr) (c : Nat) (n : Int) (x : List Seg) (PA : Option Addr) (pc : Nat) (w : World) (hr : Rd w w.heap.size 3 A l.length (rtCells l)) (_hl : l.length ≤ c) (hm : c ≤ maxLen) (hz : ∀ r ∈ l, r.m.length ≤ 140737488355328 ∧ r.p.length ≤ 140737488355328 ∧ r.h.length ≤ 140737488355328)
    (hx : Rd w w.heap.size 1 PA x.length (x.map strV)) (hxc : x.length ≤ pc) (hxm : pc ≤ maxLen) (hxz : ∀ s ∈ x, s.length ≤ 140737488355328) (hw : HB w) :
    Calls Tryd.prog 4 #[.slice A l.length c, .int .i64 n, .slice PA x.length pc] w fun e w' => e = .returned (.bool true) ∧ Below w.heap.size w w' := by
  have hxn : x.length ≤ 9223372036854775807 := by unfold maxLen at hxm; omega
  have hxs : ∀ s ∈ x, s.length ≤ 1000000000000000 := fun s hs => by have := hxz s hs; omega
  have hls : ∀ r ∈ l, r.m.length ≤ 1000000000000000 ∧ r.p.length ≤ 1000000000000000 := fun r hr => by have := hz r hr; omega
  have hln : l.length ≤ 9223372036854775807 := by unfold maxLen at hm; omega
  by_cases h60 : l.length ≤ 60
  · cases hli : lightL x with
    | false => exact keeps_heavy l A c n x PA pc w hx hxn hxs h60 hw hli
    | true => exact keeps_go l A c n x PA pc w hr hx hxc hxn hxs h60 hls hw hli
  · exact keeps_out l A c n x PA pc w h60 hln hw
end Go.Proofs.YtekjpcmobgdgpaaDoor
