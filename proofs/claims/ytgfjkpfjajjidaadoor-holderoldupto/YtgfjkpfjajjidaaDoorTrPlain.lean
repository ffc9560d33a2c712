/- The tree, plainly: a node is the list of the routes that come to it, each with what is left of its pattern; what is found from a node on, in which order; and that the first of a method is the strongest one. -/
import Derived.Test.YtgfjkpfjajjidaaDoorRfTable
namespace Go.Proofs.YtgfjkpfjajjidaaDoor
open Pl

/-- A route that ends at a node: method, handler, its whole pattern. -/
structure En where
  m : List UInt8
  h : List UInt8
  s : List Seg
deriving DecidableEq
abbrev It := List Seg × En

def wgo (s : Seg) : It → Option It
  | (p :: ps, e) => if kd p = 0 ∧ p = s then some (ps, e) else none
  | ([], _) => none
def kgo (k : Nat) : It → Option It
  | (p :: ps, e) => if kd p = k then some (ps, e) else none
  | ([], _) => none
def ego : It → Option En
  | ([], e) => some e
  | (_ :: _, _) => none
def wsub (s : Seg) (L : List It) : List It := L.filterMap (wgo s)
def ksub (k : Nat) (L : List It) : List It := L.filterMap (kgo k)
def endsL (L : List It) : List En := L.filterMap ego

def findL : List It → List Seg → List En
  | L, [] => endsL L
  | L, x :: xs => findL (wsub x L) xs ++ ((if x = [] then [] else findL (ksub 1 L) xs) ++ endsL (ksub 2 L))

theorem wsub_app (s : Seg) (L K : List It) : wsub s (L ++ K) = wsub s L ++ wsub s K := List.filterMap_append
theorem ksub_app (k : Nat) (L K : List It) : ksub k (L ++ K) = ksub k L ++ ksub k K := List.filterMap_append
theorem ends_app (L K : List It) : endsL (L ++ K) = endsL L ++ endsL K := List.filterMap_append
theorem find_nil : ∀ x, findL [] x = []
  | [] => rfl
  | x :: xs => by
    have := find_nil xs
    simp [findL, wsub, ksub, endsL, this]

theorem mem_wsub {s : Seg} {L : List It} {i : It} : i ∈ wsub s L ↔ ∃ p, kd p = 0 ∧ p = s ∧ (p :: i.1, i.2) ∈ L := by
  obtain ⟨r, e⟩ := i
  simp only [wsub, List.mem_filterMap]
  constructor
  · rintro ⟨⟨q, f⟩, hq, hg⟩
    cases q with
    | nil => cases hg
    | cons p ps =>
      simp only [wgo] at hg
      split at hg
      · rename_i hc; cases hg; exact ⟨p, hc.1, hc.2, hq⟩
      · cases hg
  · rintro ⟨p, h1, h2, h3⟩
    exact ⟨_, h3, by simp only [wgo]; rw [if_pos ⟨h1, h2⟩]⟩
theorem mem_ksub {k : Nat} {L : List It} {i : It} : i ∈ ksub k L ↔ ∃ p, kd p = k ∧ (p :: i.1, i.2) ∈ L := by
  obtain ⟨r, e⟩ := i
  simp only [ksub, List.mem_filterMap]
  constructor
  · rintro ⟨⟨q, f⟩, hq, hg⟩
    cases q with
    | nil => cases hg
    | cons p ps =>
      simp only [kgo] at hg
      split at hg
      · rename_i hc; cases hg; exact ⟨p, hc, hq⟩
      · cases hg
  · rintro ⟨p, h1, h3⟩
    exact ⟨_, h3, by simp only [kgo]; rw [if_pos h1]⟩
theorem mem_ends {L : List It} {e : En} : e ∈ endsL L ↔ ([], e) ∈ L := by
  simp only [endsL, List.mem_filterMap]
  constructor
  · rintro ⟨⟨q, f⟩, hq, hg⟩
    cases q with
    | nil => cases hg; exact hq
    | cons p ps => cases hg
  · intro h
    exact ⟨_, h, rfl⟩

/-- What is found. -/
theorem find_mem : ∀ (x : List Seg) (L : List It) (_ : ∀ i ∈ L, okP i.1 = true) (e : En), e ∈ findL L x ↔ ∃ r, (r, e) ∈ L ∧ hasL r x = true
  | [], L, hL, e => by
    rw [findL, mem_ends]
    constructor
    · intro h; exact ⟨[], h, rfl⟩
    · rintro ⟨r, h, hh⟩
      cases r with
      | nil => exact h
      | cons p ps => cases hh
  | x :: xs, L, hL, e => by
    have o1 : ∀ i ∈ wsub x L, okP i.1 = true := fun i hi => by
      obtain ⟨p, _, _, h⟩ := mem_wsub.1 hi
      have := hL _ h
      simp only [okP, Bool.and_eq_true] at this
      exact this.2
    have o2 : ∀ i ∈ ksub 1 L, okP i.1 = true := fun i hi => by
      obtain ⟨p, _, h⟩ := mem_ksub.1 hi
      have := hL _ h
      simp only [okP, Bool.and_eq_true] at this
      exact this.2
    rw [findL, List.mem_append, List.mem_append, find_mem xs _ o1 e, mem_ends, mem_ksub]
    constructor
    · rintro (⟨r, h, hh⟩ | h | ⟨p, hk, h⟩)
      · obtain ⟨p, hk, hp, h7⟩ := mem_wsub.1 h
        subst hp
        exact ⟨p :: r, h7, by simp [hasL, hk, hh]⟩
      · by_cases hx : x = []
        · rw [if_pos hx] at h; cases h
        · rw [if_neg hx, find_mem xs _ o2 e] at h
          obtain ⟨r, h, hh⟩ := h
          obtain ⟨p, hk, h⟩ := mem_ksub.1 h
          exact ⟨p :: r, h, by simp [hasL, hk, hh, hx]⟩
      · exact ⟨[p], h, by simp [hasL, hk]⟩
    · rintro ⟨r, h, hh⟩
      cases r with
      | nil => cases hh
      | cons p ps =>
        have hok := hL _ h
        simp only [okP, Bool.and_eq_true, Bool.or_eq_true, decide_eq_true_eq] at hok
        rcases kd_cases p with k | k | k
        · simp [hasL, k] at hh
          left
          exact ⟨ps, mem_wsub.2 ⟨p, k, hh.1, h⟩, hh.2⟩
        · simp [hasL, k] at hh
          right; left
          rw [if_neg hh.1, find_mem xs _ o2 e]
          exact ⟨ps, mem_ksub.2 ⟨p, k, h⟩, hh.2⟩
        · right; right
          have : ps = [] := by
            rcases hok.1.2 with h1 | h1
            · exact absurd k h1
            · exact h1
          subst this
          exact ⟨p, k, h⟩

theorem str_pre : ∀ (a b r s : List Seg), a.map kd = b.map kd → strL (a ++ r) (b ++ s) = strL r s
  | [], [], r, s, _ => rfl
  | [], _ :: _, _, _, h => by cases h
  | _ :: _, [], _, _, h => by cases h
  | p :: a, q :: b, r, s, h => by
    rw [List.map_cons, List.map_cons, List.cons.injEq] at h
    rw [List.cons_append, List.cons_append, strL, if_pos h.1]
    exact str_pre a b r s h.2

/-- All have come by patterns whose segments so far have these kinds. -/
def Pre (ks : List Nat) (L : List It) : Prop := ∀ i ∈ L, ∃ a, i.2.s = a ++ i.1 ∧ a.map kd = ks
theorem Pre.word {ks : List Nat} {L : List It} (h : Pre ks L) (x : Seg) : Pre (ks ++ [0]) (wsub x L) := fun i hi => by
  obtain ⟨p, hk, _, hm⟩ := mem_wsub.1 hi
  obtain ⟨a, h1, h2⟩ := h _ hm
  exact ⟨a ++ [p], by rw [h1]; simp, by rw [List.map_append, h2]; simp [hk]⟩
theorem Pre.kind {ks : List Nat} {L : List It} (h : Pre ks L) (k : Nat) : Pre (ks ++ [k]) (ksub k L) := fun i hi => by
  obtain ⟨p, hk, hm⟩ := mem_ksub.1 hi
  obtain ⟨a, h1, h2⟩ := h _ hm
  exact ⟨a ++ [p], by rw [h1]; simp, by rw [List.map_append, h2]; simp [hk]⟩
/-- Two patterns of which one has the lesser kind behind alike kinds. -/
theorem str_less {ks : List Nat} {j k : Nat} {u v : List Seg} (hu : ∃ a, (ks ++ [j]) <+: (u.map kd) ∧ a = u) (hv : (ks ++ [k]) <+: (v.map kd)) (h : j < k) : strL v u = false := by
  obtain ⟨a, hu, rfl⟩ := hu
  obtain ⟨c, hc⟩ := hu
  obtain ⟨d, hd⟩ := hv
  induction ks generalizing a v with
  | nil =>
    cases a with
    | nil => simp at hc
    | cons p a =>
      cases v with
      | nil => simp at hd
      | cons q v =>
        simp only [List.nil_append, List.cons_append, List.map_cons, List.cons.injEq] at hc hd
        rw [strL, if_neg (by omega), decide_eq_false_iff_not]
        omega
  | cons t ks ih =>
    cases a with
    | nil => simp at hc
    | cons p a =>
      cases v with
      | nil => simp at hd
      | cons q v =>
        simp only [List.cons_append, List.map_cons, List.cons.injEq] at hc hd
        rw [strL, if_pos (by omega)]
        exact ih a hc.2 hd.2
theorem Pre.head {ks : List Nat} {L : List It} (h : Pre ks L) {i : It} (hi : i ∈ L) : ks <+: i.2.s.map kd := by
  obtain ⟨a, h1, h2⟩ := h i hi
  rw [h1, List.map_append, h2]
  exact List.prefix_append _ _

theorem find_sub : ∀ (x : List Seg) (L : List It) (e : En), e ∈ findL L x → ∃ r, (r, e) ∈ L
  | [], L, e, h => ⟨[], mem_ends.1 h⟩
  | x :: xs, L, e, h => by
    rw [findL, List.mem_append, List.mem_append] at h
    rcases h with h | h | h
    · obtain ⟨r, h⟩ := find_sub xs _ e h
      obtain ⟨p, _, _, h⟩ := mem_wsub.1 h
      exact ⟨_, h⟩
    · by_cases hx : x = []
      · rw [if_pos hx] at h; cases h
      · rw [if_neg hx] at h
        obtain ⟨r, h⟩ := find_sub xs _ e h
        obtain ⟨p, _, h⟩ := mem_ksub.1 h
        exact ⟨_, h⟩
    · obtain ⟨p, _, h⟩ := mem_ksub.1 (mem_ends.1 h)
      exact ⟨_, h⟩

theorem ends_alike {ks : List Nat} {L : List It} (h : Pre ks L) {u v : En} (hu : u ∈ endsL L) (hv : v ∈ endsL L) : strL v.s u.s = false := by
  obtain ⟨a, h1, h2⟩ := h _ (mem_ends.1 hu)
  obtain ⟨b, h3, h4⟩ := h _ (mem_ends.1 hv)
  simp only at h1 h3
  rw [h1, h3, str_pre b a [] [] (h4.trans h2.symm)]
  rfl

/-- The stronger ones first. -/
theorem find_order : ∀ (x : List Seg) (ks : List Nat) (L : List It), Pre ks L → (findL L x).Pairwise fun u v => strL v.s u.s = false
  | [], ks, L, h => by
    rw [findL]
    refine List.pairwise_iff_forall_sublist.2 fun {u v} hs => ?_
    exact ends_alike h (hs.subset (by simp)) (hs.subset (by simp))
  | x :: xs, ks, L, h => by
    have i0 : ∀ u ∈ findL (wsub x L) xs, (ks ++ [0]) <+: u.s.map kd := fun u hu => by
      obtain ⟨r, hr⟩ := find_sub _ _ _ hu
      exact (h.word x).head hr
    have i1 : ∀ u ∈ (if x = [] then [] else findL (ksub 1 L) xs), (ks ++ [1]) <+: u.s.map kd := fun u hu => by
      by_cases hx : x = []
      · rw [if_pos hx] at hu; cases hu
      · rw [if_neg hx] at hu
        obtain ⟨r, hr⟩ := find_sub _ _ _ hu
        exact (h.kind 1).head hr
    have i2 : ∀ u ∈ endsL (ksub 2 L), (ks ++ [2]) <+: u.s.map kd := fun u hu => (h.kind 2).head (mem_ends.1 hu)
    rw [findL, List.pairwise_append, List.pairwise_append]
    refine ⟨find_order xs _ _ (h.word x), ⟨?_, ?_, ?_⟩, ?_⟩
    · by_cases hx : x = []
      · rw [if_pos hx]; exact List.Pairwise.nil
      · rw [if_neg hx]; exact find_order xs _ _ (h.kind 1)
    · refine List.pairwise_iff_forall_sublist.2 fun {u v} hs => ?_
      exact ends_alike (h.kind 2) (hs.subset (by simp)) (hs.subset (by simp))
    · intro u hu v hv
      exact str_less ⟨_, i1 u hu, rfl⟩ (i2 v hv) (by decide)
    · intro u hu v hv
      rcases List.mem_append.1 hv with hv | hv
      · exact str_less ⟨_, i0 u hu, rfl⟩ (i1 v hv) (by decide)
      · exact str_less ⟨_, i0 u hu, rfl⟩ (i2 v hv) (by decide)

def enOf (r : Rt) : En := ⟨r.m, r.h, cutL r.p⟩
def itOf (r : Rt) : It := (cutL r.p, enOf r)
def itemsL (l : List Rt) : List It := l.map itOf
theorem items_app (l k : List Rt) : itemsL (l ++ k) = itemsL l ++ itemsL k := List.map_append
theorem items_ok {l : List Rt} (h : Good cutL l) : ∀ i ∈ itemsL l, okP i.1 = true := fun i hi => by
  obtain ⟨r, hr, rfl⟩ := List.mem_map.1 hi
  exact h r hr
theorem items_pre (l : List Rt) : Pre [] (itemsL l) := fun i hi => by
  obtain ⟨r, hr, rfl⟩ := List.mem_map.1 hi
  exact ⟨[], rfl, rfl⟩
theorem find_items {l : List Rt} (h : Good cutL l) (x : List Seg) (e : En) : e ∈ findL (itemsL l) x ↔ ∃ r ∈ l, enOf r = e ∧ hasL (cutL r.p) x = true := by
  rw [find_mem x _ (items_ok h)]
  constructor
  · rintro ⟨s, hs, hh⟩
    obtain ⟨r, hr, e2⟩ := List.mem_map.1 hs
    cases e2
    exact ⟨r, hr, rfl, hh⟩
  · rintro ⟨r, hr, rfl, hh⟩
    exact ⟨_, List.mem_map.2 ⟨r, hr, rfl⟩, hh⟩

/-- The first one of a method, in the order of what was found. -/
def firstL (m : List UInt8) (es : List En) : Option En := es.find? fun e => decide (e.m = m)

theorem apart_eq {l : List Rt} (ha : Apart cutL l) {r s : Rt} (hr : r ∈ l) (hs : s ∈ l) (h1 : r.m = s.m) (h2 : shps (cutL r.p) = shps (cutL s.p)) : r = s := by
  apply Classical.byContradiction
  intro hne
  unfold Apart at ha
  induction l with
  | nil => cases hr
  | cons t l ih =>
    rw [List.pairwise_cons] at ha
    rcases List.mem_cons.1 hr with er | hr'
    · rcases List.mem_cons.1 hs with es | hs'
      · exact hne (er.trans es.symm)
      · exact ha.1 s hs' (by rw [← er]; exact ⟨h1, h2⟩)
    · rcases List.mem_cons.1 hs with es | hs'
      · exact ha.1 r hr' (by rw [← es]; exact ⟨h1.symm, h2.symm⟩)
      · exact ih ha.2 hr' hs'

theorem first_best {l : List Rt} (hg : Good cutL l) (ha : Apart cutL l) (m : List UInt8) (x : List Seg) : firstL m (findL (itemsL l) x) = (bestL cutL m x l).map enOf := by
  have hb := best_is cutL m x l hg ha
  cases hf : firstL m (findL (itemsL l) x) with
  | none =>
    have hno : IsBest cutL m x l none := by
      intro r hr
      rw [Bool.eq_false_iff]
      intro hfit
      simp only [fitR, Bool.and_eq_true, decide_eq_true_eq] at hfit
      have := List.find?_eq_none.1 hf (enOf r) ((find_items hg x _).2 ⟨r, hr, rfl, hfit.1⟩)
      simp [enOf, hfit.2] at this
    rw [best_one cutL hb hno]; rfl
  | some e =>
    obtain ⟨hm, as, bs, hsplit, hnot⟩ := List.find?_eq_some_iff_append.1 hf
    have hm' : e.m = m := by simpa using hm
    have he : e ∈ findL (itemsL l) x := by rw [hsplit]; simp
    obtain ⟨r, hr, her, hh⟩ := (find_items hg x e).1 he
    have hyes : IsBest cutL m x l (some r) := by
      have hrm : r.m = m := by rw [← hm', ← her]; rfl
      refine ⟨hr, by simp [fitR, hh, hrm], fun s hs hfs => ?_⟩
      simp only [fitR, Bool.and_eq_true, decide_eq_true_eq] at hfs
      have hin : enOf s ∈ findL (itemsL l) x := (find_items hg x _).2 ⟨s, hs, rfl, hfs.1⟩
      have hord := find_order x [] _ (items_pre l)
      rw [hsplit] at hin hord
      have hsr : enOf s = e ∨ strL (cutL s.p) (cutL r.p) = false := by
        rcases List.mem_append.1 hin with h1 | h1
        · exfalso
          have := hnot _ h1
          simp [enOf, hfs.2] at this
        · rcases List.mem_cons.1 h1 with h1 | h1
          · exact .inl h1
          · right
            have := (List.pairwise_cons.1 (List.pairwise_append.1 hord).2.1).1 _ h1
            rw [← her] at this
            exact this
      have hsr2 : strL (cutL s.p) (cutL r.p) = false := by
        rcases hsr with h1 | h1
        · rw [← her] at h1
          have : cutL s.p = cutL r.p := congrArg En.s h1
          rw [this]; exact str_irr _
        · exact h1
      cases h3 : strL (cutL r.p) (cutL s.p) with
      | true => exact .inr rfl
      | false =>
        left
        exact apart_eq ha hs hr (hfs.2.trans hrm.symm) (str_total (hg s hs) (hg r hr) hfs.1 hh hsr2 h3)
    rw [best_one cutL hb hyes]
    show some e = some (enOf r)
    rw [her]

/-- Where none of a method was found. -/
theorem first_none {l : List Rt} (hg : Good cutL l) (ha : Apart cutL l) {m : List UInt8} {x : List Seg} (h : bestL cutL m x l = none) : ∀ e ∈ findL (itemsL l) x, e.m ≠ m := by
  have := first_best hg ha m x
  rw [h] at this
  intro e he hm
  have := List.find?_eq_none.1 this e he
  simp [hm] at this

/-- The methods that were found. -/
theorem find_allow {l : List Rt} (hg : Good cutL l) (x : List Seg) (m : List UInt8) : m ∈ (findL (itemsL l) x).map En.m ↔ m ∈ allowL cutL x l := by
  rw [(allow_is cutL x l).2 m, List.mem_map]
  constructor
  · rintro ⟨e, he, rfl⟩
    obtain ⟨r, hr, rfl, hh⟩ := (find_items hg x e).1 he
    exact ⟨r, hr, hh, rfl⟩
  · rintro ⟨r, hr, hh, rfl⟩
    exact ⟨enOf r, (find_items hg x _).2 ⟨r, hr, rfl, hh⟩, rfl⟩
end Go.Proofs.YtgfjkpfjajjidaaDoor
