/- The words of TrieWords, plainly. -/
import Derived.Test.YtekjpcmobgdgpaaDoorMapSeen
namespace Go.Proofs.YtekjpcmobgdgpaaDoor
open Go.RowKit Pl

theorem SN.eq {W W' : World} {r : Nat} {ns : List (List UInt8)} (h : SN W r ns) (hb : W'.heap[r]? = W.heap[r]?) : SN W' r ns := by
  obtain ⟨es, clock, h1, h2⟩ := h
  exact ⟨es, clock, hb.trans h1, h2⟩
def wRt (s : Seg) : Rt := ⟨[71, 69, 84], 47 :: s, [103, 101, 116]⟩
def wOk (s : Seg) : Bool := rightL (wRt s) && (decide (s ≠ []) && decide (kd s = 0))
/-- What stands of the words. -/
structure Wd (ws : List Seg) : Prop where
  nodup : ws.Nodup
  ok : ∀ s ∈ ws, wOk s = true
  short : ∀ s ∈ ws, s.length ≤ 30
theorem Wd.nil : Wd [] := ⟨List.nodup_nil, fun _ h => (by cases h), fun _ h => (by cases h)⟩
theorem Wd.snoc {ws : List Seg} (h : Wd ws) {s : Seg} (h1 : s ∉ ws) (h2 : wOk s = true) (h3 : s.length ≤ 30) : Wd (ws ++ [s]) := by
  refine ⟨?_, fun x hx => ?_, fun x hx => ?_⟩
  · rw [List.nodup_append]
    exact ⟨h.nodup, by simp, fun a ha b hb => by simp at hb; subst hb; exact fun e => h1 (e ▸ ha)⟩
  · rcases List.mem_append.1 hx with hx | hx
    · exact h.ok x hx
    · simp at hx; subst hx; exact h2
  · rcases List.mem_append.1 hx with hx | hx
    · exact h.short x hx
    · simp at hx; subst hx; exact h3
theorem Wd.ne {ws : List Seg} (h : Wd ws) {s : Seg} (hs : s ∈ ws) : s ≠ [] ∧ kd s = 0 := by
  have := h.ok s hs
  simp only [wOk, Bool.and_eq_true, decide_eq_true_eq] at this
  exact this.2
theorem w_cut {s : Seg} (h1 : s ≠ []) (h2 : (47 : UInt8) ∉ s) : cutL (wRt s).p = [s] := by
  show cutL (47 :: s) = [s]
  rw [cutL, if_neg (by simpa using h1)]
  show wordsB 47 s = [s]
  exact words_one 47 s h2
theorem w_pat {s : Seg} (h : wOk s = true) (hl : s.length ≤ 30) : (patL (wRt s).p).isSome = true ∧ (wRt s).p.length ≤ 10000 := by
  simp only [wOk, Bool.and_eq_true] at h
  have h1 := h.1
  simp only [rightL, Bool.and_eq_true] at h1
  exact ⟨h1.1.1, by show (47 :: s).length ≤ _; simp; omega⟩
theorem w_law {ws : List Seg} (h : Wd ws) (hf : ws.length ≤ 24) (h47 : ∀ s ∈ ws, (47 : UInt8) ∉ s) : Law (ws.map wRt) := by
  refine ⟨by simpa using hf, fun r hr => ?_, ?_, fun r hr => ?_⟩
  · obtain ⟨s, hs, rfl⟩ := List.mem_map.1 hr
    obtain ⟨h1, h2⟩ := h.ne hs
    rw [w_cut h1 (h47 s hs)]
    simp [okP, h1, h2]
  · unfold Apart
    rw [List.pairwise_map]
    refine List.Pairwise.imp_of_mem ?_ h.nodup
    intro a b ha hb hne hc
    have h1 := hc.2
    obtain ⟨a1, a2⟩ := h.ne ha
    obtain ⟨b1, b2⟩ := h.ne hb
    rw [w_cut a1 (h47 a ha), w_cut b1 (h47 b hb)] at h1
    simp [shps, shp, a2, b2] at h1
    exact hne h1
  · obtain ⟨s, hs, rfl⟩ := List.mem_map.1 hr
    exact w_pat (h.ok s hs) (h.short s hs)
theorem ok_any {L : List Rt} (h : Law L) (m : List UInt8) (x : List Seg) : (matchL m x L).ok = L.any (fitR cutL m x) := by
  have hb := best_is cutL m x L h.good h.apart
  unfold matchL
  cases hbb : bestL cutL m x L with
  | none =>
    rw [hbb] at hb
    show false = _
    symm
    rw [Bool.eq_false_iff]
    intro h2
    obtain ⟨r, hr, hf⟩ := List.any_eq_true.1 h2
    have h3 := hb r hr
    rw [h3] at hf; cases hf
  | some r =>
    rw [hbb] at hb
    show true = _
    symm
    exact List.any_eq_true.2 ⟨r, hb.1, hb.2.1⟩
theorem w_match {ws : List Seg} (h : Wd ws) (hf : ws.length ≤ 24) (h47 : ∀ s ∈ ws, (47 : UInt8) ∉ s) {L : List Rt} (hp : (ws.map wRt).Perm L) (x : Seg) : (matchL [71, 69, 84] [x] L).ok = decide (x ∈ ws) := by
  rw [match_perm (w_law h hf h47) hp, ok_any (w_law h hf h47), Bool.eq_iff_iff, decide_eq_true_eq, List.any_eq_true]
  have hfit : ∀ s ∈ ws, fitR cutL [71, 69, 84] [x] (wRt s) = decide (s = x) := fun s hs => by
    obtain ⟨h1, h2⟩ := h.ne hs
    unfold fitR
    rw [w_cut h1 (h47 s hs)]
    simp [hasL, h2, wRt]
  constructor
  · rintro ⟨r, hr, hfr⟩
    obtain ⟨s, hs, rfl⟩ := List.mem_map.1 hr
    rw [hfit s hs, decide_eq_true_eq] at hfr
    exact hfr ▸ hs
  · intro hx
    exact ⟨wRt x, List.mem_map.2 ⟨x, hx, rfl⟩, by rw [hfit x hx]; simp⟩
def rotW (ws : List Seg) (t : Nat) : List Seg := ws.drop t ++ ws.take t
theorem rot_len (ws : List Seg) (t : Nat) (h : t ≤ ws.length) : (rotW ws t).length = ws.length := by simp [rotW]; omega
theorem rot_perm (ws : List Seg) (t : Nat) : ws.Perm (rotW ws t) := by
  have := @List.perm_append_comm _ (ws.take t) (ws.drop t)
  rwa [List.take_append_drop] at this
theorem rot_at (ws : List Seg) (t k : Nat) (ht : t < ws.length) (hk : k < ws.length) (h : (k + t) % ws.length < ws.length) : (rotW ws t)[k]? = some ws[(k + t) % ws.length] := by
  unfold rotW
  by_cases h1 : k < ws.length - t
  · rw [List.getElem?_append_left (by simp; omega), List.getElem?_drop]
    have e : (k + t) % ws.length = t + k := by rw [Nat.mod_eq_of_lt (by omega)]; omega
    simp only [e]
    exact List.getElem?_eq_getElem (by omega)
  · rw [List.getElem?_append_right (by simp; omega), List.getElem?_take, if_pos (by simp; omega)]
    have e : (k + t) % ws.length = k + t - ws.length := by rw [Nat.mod_eq_sub_mod (by omega), Nat.mod_eq_of_lt (by omega)]
    have e2 : k - (ws.drop t).length = k + t - ws.length := by simp; omega
    simp only [e, e2]
    exact List.getElem?_eq_getElem (by omega)
theorem wd_rot {ws : List Seg} (h : Wd ws) (t : Nat) : ∀ s ∈ rotW ws t, wOk s = true ∧ s.length ≤ 30 := fun s hs => by
  have := (rot_perm ws t).mem_iff.2 hs
  exact ⟨h.ok s this, h.short s this⟩
end Go.Proofs.YtekjpcmobgdgpaaDoor
