/- The walk of TrieMatches. -/
import Derived.Test.YtekjpcmobgdgpaaDoorRfMat
namespace Go.Proofs.YtekjpcmobgdgpaaDoor
open Go.RowKit Pl

/-- A path among many: where it lies. -/
structure Pq where
  a : Option Addr
  c : Nat
  x : List Seg
def pqV (p : Pq) : Value := .slice p.a p.x.length p.c
def PqAt (w : World) (B : Nat) (p : Pq) : Prop := Rd w B 1 p.a p.x.length (p.x.map strV) ∧ p.x.length ≤ p.c ∧ p.c ≤ maxLen ∧ ∀ s ∈ p.x, s.length ≤ 140737488355328
theorem pq_in {w : World} {B n : Nat} {A : Option Addr} {l : List Pq} (h : Rd w B 1 A n (l.map pqV)) (hn : n = l.length) (k : Nat) (hk : k < l.length) : ∃ a : Addr, A = some a ∧ a.block < B ∧ w.cell? (a.add k) = some (.slice l[k].a l[k].x.length l[k].c) := by
  subst hn
  obtain ⟨a, e, h1, h2⟩ := h.at hk (pqV l[k]) (by simp [hk])
  exact ⟨a, e, h1, h2⟩
theorem mt_al (m : List UInt8) (x : List Seg) (l : List Rt) : (matchL m x l).ok = true → (matchL m x l).al = [] := by
  unfold matchL
  cases bestL cutL m x l with
  | none => intro h; cases h
  | some r => intro _; rfl

theorem rd_set {w : World} {B k n : Nat} {A : Option Addr} {xs : List Value} (h : Rd w B k A n xs) (p : Addr) (u v : Value) (hp : w.cell? p = some u) (hu : ∀ y ∈ xs, y ≠ u) : Rd (w.setCell p v) B k A n xs := by
  refine ⟨h.1, fun hn => ?_⟩
  obtain ⟨a, e, hl, hc⟩ := h.2 hn
  refine ⟨a, e, hl, fun j y hy => ?_⟩
  refine (World.cell?_setCell_other w p (a.add j) v (fun e2 => by
    have h1 := hc j y hy
    rw [← e2, hp] at h1
    exact hu y (List.mem_of_getElem? hy) (Option.some.inj h1).symm)).trans (hc j y hy)
theorem pl_not (l : List PL) (Q : Option Addr) (m d : Nat) : ∀ y ∈ plCells l, y ≠ .slice Q m d := by
  intro y hy
  obtain ⟨z, _, hy⟩ := List.mem_flatMap.1 hy
  simp only [plV, List.mem_cons, List.not_mem_nil, or_false] at hy
  rcases hy with rfl | rfl <;> exact fun h => by cases h
theorem mt_cut {w : World} {t : Mt} {hb : ByteArray} {P : Option Addr} {n c : Nat} {Q : Option Addr} {m d : Nat} (h : MtAt w t hb P n c Q m d) (hal : t.al = []) (p : Addr) (Q' : Option Addr) (m' d' : Nat) (hp : w.cell? p = some (.slice Q' m' d')) (v : Value) : MtAt (w.setCell p v) t hb P n c none 0 0 := by
  obtain ⟨h1, h2, h3, _, _⟩ := h
  have hz : (w.setCell p v).heap.size = w.heap.size := by simp [World.setCell]
  refine ⟨h1, h2, ?_, by rw [hal]; rfl, by rw [hal]; exact rd_zero _ _ _ _⟩
  rw [hz]
  exact rd_set h3 p _ v hp (pl_not _ _ _ _)

set_option maxRecDepth 100000 in
set_option maxHeartbeats 8000000 in
theorem matches_walk (l : List Rt) (A : Option Addr) (c : Nat) (ps : List Pq) (PA : Option Addr) (pc : Nat) (m : ByteArray) (w : World) (hr : Rd w w.heap.size 3 A l.length (rtCells l)) (_hl : l.length ≤ c) (hm : c ≤ maxLen) (hz : ∀ r ∈ l, r.m.length ≤ 140737488355328 ∧ r.p.length ≤ 140737488355328 ∧ r.h.length ≤ 140737488355328)
    (hx : Rd w w.heap.size 1 PA ps.length (ps.map pqV)) (_hxc : ps.length ≤ pc) (hxm : pc ≤ maxLen) (hq : ∀ p ∈ ps, PqAt w w.heap.size p) (_hms : m.size ≤ maxLen) (hw : HB w) :
    Calls Tryd.prog 3 #[.slice A l.length c, .slice PA ps.length pc, .string m] w fun e w' => e = .returned (.bool true) ∧ Below w.heap.size w w' := by
  have HW := Lib.hid hw
  have HR := Lib.hid hr
  have HX := Lib.hid hx
  have HQ := Lib.hid hq
  have HF := Lib.hid (fit_any w hw)
  have HSM := Lib.hid (fun wx (h : Below w.heap.size w wx) hl => some_any l A c wx ((hr.below h (Nat.le_refl _)).wide h.size) (hw.below h) hl (fun r hr => by have := hz r hr; omega))
  have hlaw := law_of l
  generalize someL l = L at *
  have HLW := Lib.hid hlaw
  have HL24 := hlaw.len
  clear hr hx hq hw hlaw hz hm
  by_cases hgd : l.length ≤ 60 ∧ ps.length ≤ 20 ∧ m.size ≤ 50
  · obtain ⟨h60, h20, h50⟩ := hgd
    have HSM2 := Lib.hid (fun wx h => HSM.out wx h (by omega))
    clear HSM
    go_enter Tryd.func3, Tryd.ntmps3
    go_wp2_with fail
    refine HF.out.mono ?_
    rintro e w1 ⟨rfl, hb1⟩
    have HB1 := Lib.hid hb1
    clear hb1
    go_wp2_with fail
    refine (HSM2.out _ HB1.out).mono ?_
    rintro e w3 ⟨sv, rfl, hown3, hb3⟩
    obtain ⟨oa, oc, rfl, hr3⟩ := Rd.own hown3
    have HB3 := Lib.hid (bt HB1.out hb3)
    have HR3 := Lib.hid hr3
    clear hown3 hb3 hr3
    have HWI := Lib.hid (with_any none [] L oa oc w3 (Tr.nil _ _) HR3.out HLW.out.pat (by simp; omega))
    rw [List.nil_append] at HWI
    go_wp2_with fail
    refine HWI.out.mono ?_
    rintro e w4 ⟨ga, rfl, hta, hb4⟩
    have HTA := Lib.hid hta
    have HB4 := Lib.hid (bt HB3.out hb4)
    have HR4 := Lib.hid ((HR3.out.below hb4 (Nat.le_refl _)).wide hb4.size)
    clear hta hb4
    go_wp2_with fail
    go_loopw [36] (fun i wr => ∃ (k : Nat), k ≤ ps.length ∧ i = .int .i64 k ∧ Hid (Below w4.heap.size w4 wr)) (fun i _ => ps.length - (intOf i).toNat)
    case atStart => exact ⟨0, by omega, rfl, Below.refl _ _⟩
    case round =>
      obtain ⟨k, hk, rfl, HB⟩ := hrel
      have HBW := Lib.hid (bt HB4.out HB.out)
      by_cases hlt : k < ps.length
      · obtain ⟨a, rfl, hab, k0⟩ := pq_in (HX.out.below HBW.out (Nat.le_refl _)) rfl k hlt
        have hpq := HQ.out ps[k] (List.getElem_mem hlt)
        generalize ps[k] = p at *
        obtain ⟨pa, pcc, x⟩ := p
        simp only at k0
        obtain ⟨hq1, hq2, hq3, hq4⟩ := hpq
        simp only at hq1 hq2 hq3 hq4
        have hx63 : x.length ≤ 9223372036854775807 := by unfold maxLen at hq3; omega
        have HLT := Lib.hid (light_any x pa pcc wr ((hq1.below HBW.out (Nat.le_refl _)).wide HBW.out.size) hx63 (fun s hs => by have := hq4 s hs; omega))
        cases hli : lightL x with
        | false =>
          rw [hli] at HLT
          clear hli hq1 hq2 hq3 hq4
          go_wp2_with fail
          refine HLT.out.mono ?_
          rintro e w5 ⟨rfl, rfl⟩
          go_wp2_with fail
          go_ret
          exact ⟨rfl, HBW.out⟩
        | true =>
          obtain ⟨hx12, hx1000⟩ := light_le hli
          rw [hli] at HLT
          have HPT := Lib.hid (fun wx (h : Below w.heap.size w wx) => Pth.of (c := pcc) ((hq1.below h (Nat.le_refl _)).wide h.size) hq2 (by omega) (fun s hs => by have := hx1000 s hs; omega))
          clear hli hq1 hq2 hq3 hq4 hx1000
          have HM1 := Lib.hid (match_any (some ⟨ga, 0, none⟩) L m pa x.length pcc x wr (HTA.out.on HB.out) HLW.out.good HLW.out.apart (HPT.out wr HBW.out) (by omega))
          have HM2 := Lib.hid (fun wx (h : Below wr.heap.size wr wx) => rmatch_any L oa oc m pa x.length pcc x wx ((HR4.out.below (bt HB.out h) (Nat.le_refl _)).wide (bt HB.out h).size) (HPT.out wx (bt HBW.out h)) HLW.out)
          have HFEW := Lib.hid (mt_few HLW.out m.data.toList x)
          have HAL : Hid (_ → _) := mt_al m.data.toList x L
          generalize matchL m.data.toList x L = T at *
          have HSS := Lib.hid (same_self T)
          go_wp2_with fail
          refine HLT.out.mono ?_
          rintro e w5 ⟨rfl, rfl⟩
          go_wp2_with fail
          refine HM1.out.mono ?_
          rintro e w8 ⟨⟨P1, n1, c1, Q1, m1, d1, rfl, hat1⟩, hb8⟩
          have HB8 := Lib.hid hb8
          have HAT1 := Lib.hid hat1
          clear hat1 hb8
          have HA9 := Lib.hid (HB8.out.alloc HB8.out.size (.cells #[.string (mkB T.h), .slice P1 n1 c1, .slice Q1 m1 d1] 32))
          have HM3 := Lib.hid (HM2.out _ HA9.out)
          have hk9 : (w8.alloc (.cells #[.string (mkB T.h), .slice P1 n1 c1, .slice Q1 m1 d1] 32)).heap[w8.heap.size]? = some (.cells #[.string (mkB T.h), .slice P1 n1 c1, .slice Q1 m1 d1] 32 (0, 0)) := heap_alloc_new w8 _
          have hs8 : w8.heap.size < (w8.alloc (.cells #[.string (mkB T.h), .slice P1 n1 c1, .slice Q1 m1 d1] 32)).heap.size := by simp
          have HAT9 := Lib.hid (HAT1.out.on ((Below.refl w8.heap.size w8).alloc (Nat.le_refl _) (.cells #[.string (mkB T.h), .slice P1 n1 c1, .slice Q1 m1 d1] 32)))
          have HSA := Lib.hid (fun (P2 Q1 Q2 : Option Addr) (n2 c2 m1 d1 m2 d2 : Nat) (wx : World) (h1 : MtAt wx T (mkB T.h) P1 n1 c1 Q1 m1 d1) (h2 : MtAt wx T (mkB T.h) P2 n2 c2 Q2 m2 d2) => same_any T T P1 P2 Q1 Q2 n1 c1 n2 c2 m1 d1 m2 d2 wx h1 h2 ⟨HFEW.out.1, HFEW.out.1, HFEW.out.2, HFEW.out.2⟩)
          rw [HSS.out] at HSA
          have HK9 := Lib.hid hk9
          have HS8 := Lib.hid hs8
          clear hk9 hs8
          generalize hth : mkB T.h = tb at *
          have HTH := Lib.hid hth
          generalize hok : T.ok = ok at *
          have HOK := Lib.hid hok
          clear hth hok
          go_wp2_with fail
          refine HM3.out.mono ?_
          rintro e w10 ⟨⟨P2, n2, c2, Q2, m2, d2, he10, hat2⟩, hb10⟩
          rw [HTH.out, HOK.out] at he10
          rw [HTH.out] at hat2
          subst he10
          have HA10 := Lib.hid ((Below.refl w10.heap.size w10).alloc (Nat.le_refl _) (.cells #[.string tb, .slice P2 n2 c2, .slice Q2 m2 d2] 32))
          have HAT2 := Lib.hid (hat2.on HA10.out)
          have HAT3 := Lib.hid ((HAT9.out.on hb10).on HA10.out)
          have hk10 : (w10.alloc (.cells #[.string tb, .slice P2 n2 c2, .slice Q2 m2 d2] 32)).heap[w10.heap.size]? = some (.cells #[.string tb, .slice P2 n2 c2, .slice Q2 m2 d2] 32 (0, 0)) := heap_alloc_new w10 _
          have hb10a : Below (w8.alloc (.cells #[.string tb, .slice P1 n1 c1, .slice Q1 m1 d1] 32)).heap.size (w8.alloc (.cells #[.string tb, .slice P1 n1 c1, .slice Q1 m1 d1] 32)) (w10.alloc (.cells #[.string tb, .slice P2 n2 c2, .slice Q2 m2 d2] 32)) := bt hb10 HA10.out
          have hk11 := (hb10a.block w8.heap.size HS8.out).trans HK9.out
          have HB10 : Hid (Below w4.heap.size w4 (w10.alloc (.cells #[.string tb, .slice P2 n2 c2, .slice Q2 m2 d2] 32))) := bt HB.out (HA9.out.trans (hb10a.mono HA9.out.size))
          have hne : w8.heap.size < w10.heap.size := Nat.lt_of_lt_of_le HS8.out hb10.size
          have HNE := Lib.hid hne
          have HGE : Hid (w4.heap.size ≤ w8.heap.size) := Nat.le_trans HB.out.size HB8.out.size
          clear hat2 hb10 hb10a hne
          cases ok with
          | false =>
            have HSC := Lib.hid (HSA.out P2 Q1 Q2 n2 c2 m1 d1 m2 d2 _ HAT3.out HAT2.out)
            have x0 : (w10.alloc (.cells #[.string tb, .slice P2 n2 c2, .slice Q2 m2 d2] 32)).cell? ⟨w8.heap.size, 0, none⟩ = some (.string tb) := by rw [Lib.cell_of_heap hk11]; rfl
            have x1 : (w10.alloc (.cells #[.string tb, .slice P2 n2 c2, .slice Q2 m2 d2] 32)).cell? ⟨w8.heap.size, 1, none⟩ = some (.slice P1 n1 c1) := by rw [Lib.cell_of_heap hk11]; rfl
            have x2 : (w10.alloc (.cells #[.string tb, .slice P2 n2 c2, .slice Q2 m2 d2] 32)).cell? ⟨w8.heap.size, 2, none⟩ = some (.slice Q1 m1 d1) := by rw [Lib.cell_of_heap hk11]; rfl
            have y0 : (w10.alloc (.cells #[.string tb, .slice P2 n2 c2, .slice Q2 m2 d2] 32)).cell? ⟨w10.heap.size, 0, none⟩ = some (.string tb) := by rw [Lib.cell_of_heap hk10]; rfl
            have y1 : (w10.alloc (.cells #[.string tb, .slice P2 n2 c2, .slice Q2 m2 d2] 32)).cell? ⟨w10.heap.size, 1, none⟩ = some (.slice P2 n2 c2) := by rw [Lib.cell_of_heap hk10]; rfl
            have y2 : (w10.alloc (.cells #[.string tb, .slice P2 n2 c2, .slice Q2 m2 d2] 32)).cell? ⟨w10.heap.size, 2, none⟩ = some (.slice Q2 m2 d2) := by rw [Lib.cell_of_heap hk10]; rfl
            clear hk10 hk11
            go_wp2_with fail
            refine HSC.out.mono ?_
            rintro e w12 ⟨rfl, hb12⟩
            have HB12 := Lib.hid (bt HB10.out hb12)
            clear hb12
            go_wp2_with fail
            go_roundw
            case rel => exact ⟨k + 1, by omega, by go_num, HB12⟩
            case measure => simp [intOf]; omega
          | true =>
            have hal : T.al = [] := HAL.out (by first | rfl | trivial)
            have HSC := Lib.hid (fun wx => HSA.out P2 none none n2 c2 0 0 0 0 wx)
            have z2 : (w10.alloc (.cells #[.string tb, .slice P2 n2 c2, .slice Q2 m2 d2] 32)).cell? ⟨w8.heap.size, 2, none⟩ = some (.slice Q1 m1 d1) := by rw [Lib.cell_of_heap hk11]; rfl
            have z3 : (w10.alloc (.cells #[.string tb, .slice P2 n2 c2, .slice Q2 m2 d2] 32)).frozen? ⟨w8.heap.size, 2, none⟩ = false := Lib.frozen_of_heap hk11 2
            have hk12 := heap_setCell_same _ w8.heap.size 2 _ 32 (.slice none 0 0) hk11
            have hk13 := (heap_setCell_other (w10.alloc (.cells #[.string tb, .slice P2 n2 c2, .slice Q2 m2 d2] 32)) ⟨w8.heap.size, 2, none⟩ w10.heap.size (.slice none 0 0) (Nat.ne_of_gt HNE.out)).trans hk10
            have HK12 := Lib.hid hk12
            have HK13 := Lib.hid hk13
            have z4 : ((w10.alloc (.cells #[.string tb, .slice P2 n2 c2, .slice Q2 m2 d2] 32)).setCell ⟨w8.heap.size, 2, none⟩ (.slice none 0 0)).cell? ⟨w10.heap.size, 2, none⟩ = some (.slice Q2 m2 d2) := by rw [Lib.cell_of_heap hk13]; rfl
            have z5 : ((w10.alloc (.cells #[.string tb, .slice P2 n2 c2, .slice Q2 m2 d2] 32)).setCell ⟨w8.heap.size, 2, none⟩ (.slice none 0 0)).frozen? ⟨w10.heap.size, 2, none⟩ = false := Lib.frozen_of_heap hk13 2
            clear hk10 hk11 hk12 hk13
            have hHR := HNE.out
            have HC1 := Lib.hid (mt_cut (mt_cut HAT3.out hal ⟨w8.heap.size, 2, none⟩ _ _ _ z2 (.slice none 0 0)) hal ⟨w10.heap.size, 2, none⟩ _ _ _ z4 (.slice none 0 0))
            have HC2 := Lib.hid (mt_cut (mt_cut HAT2.out hal ⟨w8.heap.size, 2, none⟩ _ _ _ z2 (.slice none 0 0)) hal ⟨w10.heap.size, 2, none⟩ _ _ _ z4 (.slice none 0 0))
            have HBF : Hid (Below w4.heap.size w4 (((w10.alloc (.cells #[.string tb, .slice P2 n2 c2, .slice Q2 m2 d2] 32)).setCell ⟨w8.heap.size, 2, none⟩ (.slice none 0 0)).setCell ⟨w10.heap.size, 2, none⟩ (.slice none 0 0))) :=
              (HB10.out.setCell (p := ⟨w8.heap.size, 2, none⟩) HGE.out _).setCell (p := ⟨w10.heap.size, 2, none⟩) (Nat.le_trans HGE.out (Nat.le_of_lt HNE.out)) _
            have hk14 := (heap_setCell_other ((w10.alloc (.cells #[.string tb, .slice P2 n2 c2, .slice Q2 m2 d2] 32)).setCell ⟨w8.heap.size, 2, none⟩ (.slice none 0 0)) ⟨w10.heap.size, 2, none⟩ w8.heap.size (.slice none 0 0) (Nat.ne_of_lt HNE.out)).trans HK12.out
            have hk15 := heap_setCell_same _ w10.heap.size 2 _ 32 (.slice none 0 0) HK13.out
            clear hHR hal
            go_upto_region 19 with fail
            generalize ((w10.alloc (.cells #[.string tb, .slice P2 n2 c2, .slice Q2 m2 d2] 32)).setCell ⟨w8.heap.size, 2, none⟩ (.slice none 0 0)).setCell ⟨w10.heap.size, 2, none⟩ (.slice none 0 0) = w11 at *
            have x0 : w11.cell? ⟨w8.heap.size, 0, none⟩ = some (.string tb) := by rw [Lib.cell_of_heap hk14]; rfl
            have x1 : w11.cell? ⟨w8.heap.size, 1, none⟩ = some (.slice P1 n1 c1) := by rw [Lib.cell_of_heap hk14]; rfl
            have x2 : w11.cell? ⟨w8.heap.size, 2, none⟩ = some (.slice none 0 0) := by rw [Lib.cell_of_heap hk14]; rfl
            have y0 : w11.cell? ⟨w10.heap.size, 0, none⟩ = some (.string tb) := by rw [Lib.cell_of_heap hk15]; rfl
            have y1 : w11.cell? ⟨w10.heap.size, 1, none⟩ = some (.slice P2 n2 c2) := by rw [Lib.cell_of_heap hk15]; rfl
            have y2 : w11.cell? ⟨w10.heap.size, 2, none⟩ = some (.slice none 0 0) := by rw [Lib.cell_of_heap hk15]; rfl
            have HSD := Lib.hid (HSC.out w11 HC1.out HC2.out)
            clear hk14 hk15 z2 z3 z4 z5
            go_wp2_with fail
            refine HSD.out.mono ?_
            rintro e w12 ⟨rfl, hb12⟩
            have HB12 := Lib.hid (bt HBF.out hb12)
            clear hb12
            go_wp2_with fail
            go_roundw
            case rel => exact ⟨k + 1, by omega, by go_num, HB12⟩
            case measure => simp [intOf]; omega
      · have HLA := Lib.hid (len_any wr.heap.size (some ⟨ga, 0, none⟩) L wr (HTA.out.on HB.out))
        generalize hnL : L.length = nL at *
        go_wp2_with fail
        refine HLA.out.mono ?_
        rintro e w8 ⟨rfl, rfl⟩
        go_wp2_with fail
        go_ret
        exact ⟨rfl, HBW.out⟩
  · have hcase : ¬ (l.length : Int) ≤ 60 ∨ ((l.length : Int) ≤ 60 ∧ ¬ (ps.length : Int) ≤ 20) ∨ ((l.length : Int) ≤ 60 ∧ (ps.length : Int) ≤ 20 ∧ ¬ (m.size : Int) ≤ 50) := by omega
    clear HSM
    rcases hcase with h1 | ⟨h1, h2⟩ | ⟨h1, h2, h3⟩
    all_goals
      go_enter Tryd.func3, Tryd.ntmps3
      go_wp2_with fail
      refine HF.out.mono ?_
      rintro e w1 ⟨rfl, hb1⟩
      go_wp2_with fail
      go_ret
      exact ⟨rfl, hb1⟩
end Go.Proofs.YtekjpcmobgdgpaaDoor
