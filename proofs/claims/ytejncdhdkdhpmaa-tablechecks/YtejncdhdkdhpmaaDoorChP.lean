/- What TableChecks reckons, plainly. -/
import Derived.Test.YtejncdhdkdhpmaaDoorTbPlain
namespace Go.Proofs.YtejncdhdkdhpmaaDoor
open Pl

def noRt : Rt := ⟨[], [], []⟩
/-- Do routes a and b clash, as the law says it? -/
def cl2 (r s : Rt) : Bool := (patL r.p).isSome && (patL s.p).isSome && decide (s.m = r.m) && decide (shapeL ((patL r.p).getD []) = shapeL ((patL s.p).getD []))
def inTo (l : List Rt) (i k : Nat) : Bool := (List.range k).any fun b => cl2 (l.getD i noRt) (l.getD b noRt)
def hitTo (l : List Rt) (i : Nat) : Bool := (List.range i).any fun a => inTo l a a
theorem in_zero (l : List Rt) (i : Nat) : inTo l i 0 = false := rfl
theorem hit_zero (l : List Rt) : hitTo l 0 = false := rfl
theorem in_succ (l : List Rt) (i k : Nat) (hi : i < l.length) (hk : k < l.length) : inTo l i (k + 1) = (inTo l i k || cl2 l[i] l[k]) := by
  unfold inTo
  rw [List.range_succ, List.any_append]
  simp [List.getD, hi, hk]
theorem hit_succ (l : List Rt) (i : Nat) : hitTo l (i + 1) = (hitTo l i || inTo l i i) := by
  unfold hitTo
  rw [List.range_succ, List.any_append]
  simp
theorem cl2_place {r s : Rt} (hr : rightL r = true) (hs : rightL s = true) : cl2 r s = decide (placeL r = placeL s) := by
  simp only [rightL, Bool.and_eq_true] at hr hs
  unfold cl2 placeL
  rw [hr.1.1, hs.1.1, Bool.eq_iff_iff]
  simp only [Bool.true_and, Bool.and_eq_true, decide_eq_true_eq, Prod.mk.injEq]
  exact ⟨fun h => ⟨h.1.symm, h.2⟩, fun h => ⟨h.1.symm, h.2⟩⟩
theorem hit_clash {l : List Rt} (h : l.all rightL = true) : hitTo l l.length = clashL l := by
  have ha := List.all_eq_true.1 h
  rw [clash_nodup, Bool.eq_iff_iff]
  simp only [Bool.not_eq_true', decide_eq_false_iff_not]
  unfold hitTo inTo
  simp only [List.any_eq_true, List.mem_range]
  constructor
  · rintro ⟨a, ha1, b, hb1, hc⟩ hn
    have hb2 : b < l.length := by omega
    rw [List.getD_eq_getElem?_getD, List.getD_eq_getElem?_getD, List.getElem?_eq_getElem ha1, List.getElem?_eq_getElem hb2] at hc
    simp only [Option.getD_some] at hc
    rw [cl2_place (ha _ (List.getElem_mem _)) (ha _ (List.getElem_mem _)), decide_eq_true_eq] at hc
    rw [List.nodup_iff_pairwise_ne, List.pairwise_iff_getElem] at hn
    have := hn b a (by simpa using hb2) (by simpa using ha1) hb1
    simp only [List.getElem_map] at this
    exact this hc.symm
  · intro hn
    rw [List.nodup_iff_pairwise_ne, List.pairwise_iff_getElem] at hn
    apply Classical.byContradiction
    intro hne
    apply hn
    intro i j hi hj hij he
    apply hne
    have hj2 : j < l.length := by simpa using hj
    have hi2 : i < l.length := by omega
    refine ⟨j, hj2, i, hij, ?_⟩
    rw [List.getD_eq_getElem?_getD, List.getD_eq_getElem?_getD, List.getElem?_eq_getElem hi2, List.getElem?_eq_getElem hj2]
    simp only [Option.getD_some]
    rw [cl2_place (ha _ (List.getElem_mem _)) (ha _ (List.getElem_mem _)), decide_eq_true_eq]
    simp only [List.getElem_map] at he
    exact he.symm

def wn1 (b : Bool) : Int := if b then 3 else 0
def wn2 (l : List Rt) : Int := if 24 < l.length then 2 else wn1 (hitTo l l.length)
def wn3 (b : Bool) (z : Int) : Int := if b then z else 1
theorem check_want (l : List Rt) : checkL l = wn3 (l.all rightL) (wn2 l) := by
  unfold checkL wn3 wn2 wn1
  by_cases h : l.all rightL = true
  · rw [if_pos h, if_pos h, hit_clash h]
  · rw [if_neg h, if_neg h]

/-- Is it one of the first j names? -/
def inN (j : Nat) (h : List UInt8) : Bool := (names8.take j).any fun x => decide (x = h)
theorem inN_succ (j : Nat) (hj : j < 8) (h : List UInt8) : inN (j + 1) h = (inN j h || decide (names8[j]'hj = h)) := by
  unfold inN
  rw [List.take_succ_eq_append_getElem hj, List.any_append]
  simp
theorem inN_all (h : List UInt8) : inN 8 h = handL h := by
  unfold inN handL
  rw [show names8.take 8 = names8 from rfl, Bool.eq_iff_iff]
  simp only [List.any_eq_true, decide_eq_true_eq]
  exact ⟨fun ⟨x, hx, e⟩ => e ▸ hx, fun hx => ⟨h, hx, rfl⟩⟩

end Go.Proofs.YtejncdhdkdhpmaaDoor
