/- The contract of the laws' own helper fit. -/
import Derived.Test.YtihdjgjceadooaaDoorParse
namespace Go.Proofs.YtihdjgjceadooaaDoor
open Go.RowKit Pl

def fitL : List ByteArray := [⟨#[71, 69, 84, 32, 47, 97, 32, 72, 84, 84, 80, 47, 49, 46, 49]⟩, ⟨#[72, 111, 115, 116, 58, 32, 120]⟩, ⟨#[67, 111, 110, 116, 101, 110, 116, 45, 76, 101, 110, 103, 116, 104, 58, 32, 53]⟩]
def fitH : Hd := ⟨⟨#[71, 69, 84]⟩, ⟨#[47, 97]⟩, [(⟨#[104, 111, 115, 116]⟩, ⟨#[120]⟩), (⟨#[99, 111, 110, 116, 101, 110, 116, 45, 108, 101, 110, 103, 116, 104]⟩, ⟨#[53]⟩)], false, 5, 0⟩
theorem fit_parse : parseF fitL = fitH := by
  have h1 : firstOf ⟨#[71, 69, 84, 32, 47, 97, 32, 72, 84, 84, 80, 47, 49, 46, 49]⟩ = some (⟨#[71, 69, 84]⟩, ⟨#[47, 97]⟩) := by rfl
  have h2 : takeF [⟨#[72, 111, 115, 116, 58, 32, 120]⟩, ⟨#[67, 111, 110, 116, 101, 110, 116, 45, 76, 101, 110, 103, 116, 104, 58, 32, 53]⟩] = some [(⟨#[104, 111, 115, 116]⟩, ⟨#[120]⟩), (⟨#[99, 111, 110, 116, 101, 110, 116, 45, 108, 101, 110, 103, 116, 104]⟩, ⟨#[53]⟩)] := by rfl
  unfold fitL
  rw [parse_ok _ _ ⟨by decide, by decide⟩ h1 h2 (by decide) (by decide)]
  rfl

theorem ba {w W : World} (h : Below w.heap.size w W) (o : Obj) : Below w.heap.size w (W.alloc o) := h.alloc h.size o

/-- A row that was just laid reads as its cells. -/
theorem Rd.new (w : World) (cs : Array Value) (t : TypeId) (n : Nat) (hn : cs.size = n) : Rd (w.alloc (.cells cs t)) (w.alloc (.cells cs t)).heap.size 1 (some ⟨w.heap.size, 0, none⟩) n cs.toList := by
  refine ⟨by simp [hn], fun _ => ⟨_, rfl, by simp, fun j u hu => ?_⟩⟩
  exact World.news_of_block (heap_alloc_new w (.cells cs t)) j u hu

set_option maxHeartbeats 1000000 in
theorem fit_any (w : World) : Calls Tryd.prog 9 #[] w fun e w' => e = .returned (.bool true) ∧ Below w.heap.size w w' := by
  have hp := fun w0 : World => parse_any fitL (some ⟨w0.heap.size, 0, none⟩) 3 (w0.alloc (.cells #[.string ⟨#[71, 69, 84, 32, 47, 97, 32, 72, 84, 84, 80, 47, 49, 46, 49]⟩, .string ⟨#[72, 111, 115, 116, 58, 32, 120]⟩, .string ⟨#[67, 111, 110, 116, 101, 110, 116, 45, 76, 101, 110, 103, 116, 104, 58, 32, 53]⟩] 9)) (Rd.new w0 _ 9 3 rfl) (by decide) (by decide) (by decide) (by decide)
  rw [fit_parse] at hp
  have HP := Lib.hid hp
  have HT : Hid (∀ w, Calls Tryd.prog 12 #[.string ⟨#[97]⟩] w fun e w' => e = .returned (.bool true) ∧ Below w.heap.size w w') := fun w => tok_any ⟨#[97]⟩ w
  clear hp
  go_enter Tryd.func9, Tryd.ntmps9
  go_wp2_with fail
  refine (HP.out w).mono ?_
  rintro e w1 ⟨v, rfl, hown, hb1⟩
  obtain ⟨g, cap, rfl, _, hgl, _⟩ := own_shape hown (by decide)
  have hk := hown.cells (g := g) rfl 0 (.string ⟨#[104, 111, 115, 116]⟩) rfl
  rw [add_zero_own] at hk
  have HO := Lib.hid hown
  clear hown
  unfold hdVal fitH
  go_wp2_with fail
  refine (HT.out _).mono ?_
  rintro e w2 ⟨rfl, hb2⟩
  go_wp2_with fail
  go_ret
  exact ⟨rfl, bt (ba (bt (ba (Below.refl _ _) _) hb1) _) hb2⟩

end Go.Proofs.YtihdjgjceadooaaDoor
