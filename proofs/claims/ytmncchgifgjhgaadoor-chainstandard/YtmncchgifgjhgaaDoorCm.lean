/- Makers: the links hand back closures; behind; what a chain of closures is. -/
import Derived.Test.YtmncchgifgjhgaaDoorCs
import Derived.Laws.EntriesVeiled
namespace Go.Proofs.YtmncchgifgjhgaaDoor
open Go.RowKit Go.Shelf

def IsFn (v : Value) : Prop := ∃ k c, v = .func (.func k) #[] c ∧ Enters Tryd.prog k
/-- The value lv is a link: of a handle it makes the closure K, which holds the handle in a box of its own, and ex besides. -/
def LinkOf (lv : Value) (K : Nat) (ex : Array Value) : Prop := ∃ m mc, lv = .func (.func m) #[] mc ∧ Enters Tryd.prog m ∧ Enters Tryd.prog K ∧
  ∀ x w, IsFn x → Calls Tryd.prog m (#[x] ++ mc) w fun e w' => e = .returned (.func (.func K) #[] (#[.pointer (some ⟨w.heap.size, 0, none⟩)] ++ ex)) ∧ w' = w.alloc (.cells #[x] 36)

theorem mk_mark : LinkOf (.func (.func 26) #[] #[]) 45 #[] := by
  refine ⟨26, #[], rfl, enters_of Tryd.func26 (by kernel_rfl) rfl, enters_of Tryd.func45 (by kernel_rfl) rfl, ?_⟩
  rintro x w ⟨k, c, rfl, _⟩
  show Calls Tryd.prog 26 #[.func (.func k) #[] c] w _
  go_enter Tryd.func26, Tryd.ntmps26
  go_wp2_with fail
  go_ret
  exact ⟨rfl, rfl⟩
theorem mk_safe : LinkOf (.func (.func 25) #[] #[]) 43 #[] := by
  refine ⟨25, #[], rfl, enters_of Tryd.func25 (by kernel_rfl) rfl, enters_of Tryd.func43 (by kernel_rfl) rfl, ?_⟩
  rintro x w ⟨k, c, rfl, _⟩
  show Calls Tryd.prog 25 #[.func (.func k) #[] c] w _
  go_enter Tryd.func25, Tryd.ntmps25
  go_wp2_with fail
  go_ret
  exact ⟨rfl, rfl⟩
theorem mk_known : LinkOf (.func (.func 21) #[] #[]) 35 #[] := by
  refine ⟨21, #[], rfl, enters_of Tryd.func21 (by kernel_rfl) rfl, enters_of Tryd.func35 (by kernel_rfl) rfl, ?_⟩
  rintro x w ⟨k, c, rfl, _⟩
  show Calls Tryd.prog 21 #[.func (.func k) #[] c] w _
  go_enter Tryd.func21, Tryd.ntmps21
  go_wp2_with fail
  go_ret
  exact ⟨rfl, rfl⟩
theorem mk_small : LinkOf (.func (.func 22) #[] #[]) 37 #[] := by
  refine ⟨22, #[], rfl, enters_of Tryd.func22 (by kernel_rfl) rfl, enters_of Tryd.func37 (by kernel_rfl) rfl, ?_⟩
  rintro x w ⟨k, c, rfl, _⟩
  show Calls Tryd.prog 22 #[.func (.func k) #[] c] w _
  go_enter Tryd.func22, Tryd.ntmps22
  go_wp2_with fail
  go_ret
  exact ⟨rfl, rfl⟩
theorem mk_guard : LinkOf (.func (.func 23) #[] #[]) 38 #[] := by
  refine ⟨23, #[], rfl, enters_of Tryd.func23 (by kernel_rfl) rfl, enters_of Tryd.func38 (by kernel_rfl) rfl, ?_⟩
  rintro x w ⟨k, c, rfl, _⟩
  show Calls Tryd.prog 23 #[.func (.func k) #[] c] w _
  go_enter Tryd.func23, Tryd.ntmps23
  go_wp2_with fail
  go_ret
  exact ⟨rfl, rfl⟩
theorem mk_routed : LinkOf (.func (.func 24) #[] #[]) 41 #[] := by
  refine ⟨24, #[], rfl, enters_of Tryd.func24 (by kernel_rfl) rfl, enters_of Tryd.func41 (by kernel_rfl) rfl, ?_⟩
  rintro x w ⟨k, c, rfl, _⟩
  show Calls Tryd.prog 24 #[.func (.func k) #[] c] w _
  go_enter Tryd.func24, Tryd.ntmps24
  go_wp2_with fail
  go_ret
  exact ⟨rfl, rfl⟩
theorem mk_order (pi : Value) : LinkOf (.func (.func 17) #[] #[pi]) 18 #[pi] := by
  refine ⟨17, #[pi], rfl, enters_of Tryd.func17 (by kernel_rfl) rfl, enters_of Tryd.func18 (by kernel_rfl) rfl, ?_⟩
  rintro x w ⟨k, c, rfl, _⟩
  show Calls Tryd.prog 17 #[.func (.func k) #[] c, pi] w _
  go_enter Tryd.func17, Tryd.ntmps17
  go_wp2_with fail
  go_ret
  exact ⟨rfl, rfl⟩

theorem behind_idle (p : Addr) (w : World) :
    CallsD Tryd.prog 48 #[.pointer (some p)] .returning w fun e u' w' => e = .returned (.tuple #[]) ∧ u' = .returning ∧ w' = w := by
  refine callsD_of_wpS Tryd.func48 rfl fun c₀ cs hu => ?_
  apply wpS_seq
  apply wpS_region
  simp [wpOpsS, go_sem, recoverD, hu, Tryd.ntmps48, Exit.thenS]
  refine wpS_cond (t := false) (by simp [Act.eval, Array.replicate]) ?_
  simp only [Bool.false_eq_true, if_false]
  refine wpS_of_wp (wp_skip ?_)
  cases c₀
  simp_all [bodyPostS, results, Tryd.results48]

set_option maxRecDepth 100000 in
set_option maxHeartbeats 4000000 in
theorem behind_any {lv : Value} {K : Nat} {ex : Array Value} (h : LinkOf lv K ex) (x : Value) (hx : IsFn x) (w : World) :
    Calls Tryd.prog 32 #[x, lv] w fun e w' => e = .returned (.func (.func K) #[] (#[.pointer (some ⟨w.heap.size + 1, 0, none⟩)] ++ ex)) ∧ w'.heap[w.heap.size + 1]? = some (.cells #[x] 36 (0, 0)) ∧ Below w.heap.size w w' := by
  obtain ⟨m, mc, rfl, hen, _, hm⟩ := h
  have HM := Lib.hid (hm x (w.alloc (.cells #[.nilFunc] 36)) hx)
  obtain ⟨k, c, rfl, _⟩ := hx
  have hen' := hen (#[.func (.func k) #[] c] ++ mc)
  clear hm hen
  have hmf : ∀ (fn : Fn) (first cap : Array Value) (w : World), (Instr.makeFunc fn first cap).run Tryd.prog w = .ok (.func fn first cap) w := fun _ _ _ _ => rfl
  go_enter_defers Tryd.func32, Tryd.ntmps32
  go_wp2_with fail
  go_at_fn m
  refine HM.out.mono ?_
  rintro e w1 ⟨rfl, rfl⟩
  go_wp2_with fail
  refine leaves_cons (f := 48) (args := #[.pointer (some ⟨w.heap.size, 0, none⟩)]) (by simp) (by simp [go_sem]) ?_
  refine (behind_idle ⟨w.heap.size, 0, none⟩ _).mono ?_
  rintro e u' w4 ⟨rfl, rfl, rfl⟩
  have hb1 := (Below.refl w.heap.size w).alloc (Nat.le_refl _) (.cells #[.func (.func K) #[] (#[.pointer (some ⟨w.heap.size + 1, 0, none⟩)] ++ ex)] 36)
  have hb2 := hb1.alloc hb1.size (.cells #[.func (.func k) #[] c] 36)
  have hk0 := (Below.heap_alloc (w.alloc (.cells #[.func (.func K) #[] (#[.pointer (some ⟨w.heap.size + 1, 0, none⟩)] ++ ex)] 36)) (.cells #[.func (.func k) #[] c] 36) w.heap.size (by simp)).trans (heap_alloc_new w _)
  have hk1 := heap_alloc_new (w.alloc (.cells #[.func (.func K) #[] (#[.pointer (some ⟨w.heap.size + 1, 0, none⟩)] ++ ex)] 36)) (.cells #[.func (.func k) #[] c] 36)
  have hsz : (w.alloc (.cells #[.func (.func K) #[] (#[.pointer (some ⟨w.heap.size + 1, 0, none⟩)] ++ ex)] 36)).heap.size = w.heap.size + 1 := by simp
  rw [hsz] at hk1
  have hc0 := blk_cell hk0 0
  simp only [List.getElem?_toArray, List.getElem?_cons_zero] at hc0
  refine ⟨.func (.func K) #[] (#[.pointer (some ⟨w.heap.size + 1, 0, none⟩)] ++ ex), ?_, rfl, hk1, hb2⟩
  generalize (w.alloc (.cells #[.func (.func K) #[] (#[.pointer (some ⟨w.heap.size + 1, 0, none⟩)] ++ ex)] 36)).alloc (.cells #[.func (.func k) #[] c] 36) = W at *
  simp [results, Tryd.results32, go_sem, hc0]

/-- The handle v is x0 behind the closures ks, the first one outermost; their boxes lie behind H. -/
inductive Chn (W : World) (H : Nat) (x0 : Value) : List (Nat × Array Value) → Value → Prop
  | nil : Chn W H x0 [] x0
  | cons {K : Nat} {ex : Array Value} {ks : List (Nat × Array Value)} {x : Value} {b : Nat} (hb : H < b) (hk : W.heap[b]? = some (.cells #[x] 36 (0, 0))) (h : Chn W H x0 ks x) : Chn W H x0 ((K, ex) :: ks) (.func (.func K) #[] (#[.pointer (some ⟨b, 0, none⟩)] ++ ex))
theorem Chn.mono {W W' : World} {H : Nat} {x0 : Value} {ks : List (Nat × Array Value)} {v : Value} (h : Chn W H x0 ks v) (hW : ∀ b x, H < b → W.heap[b]? = some (.cells #[x] 36 (0, 0)) → W'.heap[b]? = W.heap[b]?) : Chn W' H x0 ks v := by
  induction h with
  | nil => exact .nil
  | cons hb hk _ ih => exact .cons hb ((hW _ _ hb hk).trans hk) ih
theorem Chn.on {W W' : World} {H : Nat} {x0 : Value} {ks : List (Nat × Array Value)} {v : Value} (h : Chn W H x0 ks v) (hb : Below W.heap.size W W') : Chn W' H x0 ks v := h.mono fun b _ _ hk => hb.block b (blk_lt hk)
end Go.Proofs.YtmncchgifgjhgaaDoor
