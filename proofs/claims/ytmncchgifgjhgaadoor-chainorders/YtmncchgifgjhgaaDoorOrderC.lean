/- A chain of the links that ChainOrders makes. -/
import Derived.Test.YtmncchgifgjhgaaDoorOrderH
namespace Go.Proofs.YtmncchgifgjhgaaDoor
open Go.RowKit Go.Shelf

def ordN (s : Nat) : Nat → ByteArray
  | 0 => ⟨#[120]⟩
  | k + 1 => ordB s (ordN (s + 1) k)
theorem ordN_size (k : Nat) : ∀ s, s + k ≤ 16 → (ordN s k).size ≤ 1 + 23 * k := by
  induction k with
  | zero => intro s _; exact Nat.le_refl 1
  | succ k ih =>
    intro s h
    have h1 := ordB_size (s : Int) (ordN (s + 1) k) (by omega) (by omega)
    have h2 := ih (s + 1) (by omega)
    show (ordB s (ordN (s + 1) k)).size ≤ _
    omega
def ptO (g : Nat) : Value := .pointer (some ⟨g, 0, none⟩)
def fnO (g : Nat) : Value := .func (.func 17) #[] #[ptO g]
def lkO (g : Nat) : Lk := ⟨(fnO g, 18, #[ptO g]), mk_order _⟩
def Ints (w : World) : List Nat → Nat → Prop
  | [], _ => True
  | g :: gs, s => w.heap[g]? = some (.cells #[.int .i64 (s : Int)] 3 (0, 0)) ∧ Ints w gs (s + 1)
theorem Ints.keep {w w' : World} {gs : List Nat} : ∀ {s}, Ints w gs s → (∀ (g : Nat) (i : Int), w.heap[g]? = some (Obj.cells #[.int .i64 i] 3 (0, 0)) → w'.heap[g]? = w.heap[g]?) → Ints w' gs s := by
  induction gs with
  | nil => intro s _ _; trivial
  | cons g gs ih => intro s h hk; exact ⟨(hk _ _ h.1).trans h.1, ih h.2 hk⟩
theorem Ints.on {w w' : World} {gs : List Nat} {s B : Nat} (h : Ints w gs s) (hb : Below B w w') (hB : w.heap.size ≤ B) : Ints w' gs s := h.keep fun g i hg => hb.block g (Nat.lt_of_lt_of_le (blk_lt hg) hB)
theorem Ints.snoc {w : World} {gs : List Nat} {g : Nat} : ∀ {s}, Ints w gs s → w.heap[g]? = some (.cells #[.int .i64 ((s + gs.length : Nat) : Int)] 3 (0, 0)) → Ints w (gs ++ [g]) s := by
  induction gs with
  | nil => intro s _ h; exact ⟨h, trivial⟩
  | cons a gs ih => intro s h hg; exact ⟨h.1, ih h.2 (by rw [hg]; congr 4; simp; omega)⟩

theorem lvs_lkO (gs : List Nat) : lvs (gs.map lkO) = gs.map fnO := by simp [lvs, lkO]
theorem kes_lkO (gs : List Nat) : kes (gs.map lkO) = gs.map fun g => (18, #[ptO g]) := by simp [kes, lkO]

theorem ords_hd {w0 : World} {H : Nat} {x0 u0 u1 u2 u3 u4 u5 u6 u7 u8 u9 u10 u11 u12 : Value} (h0 : Hd noP anyS anyS (.agg #[u0, u1, u2, u3, u4, u5, u6, u7, u8, u9, u10, u11, u12]) (.ans 0 [] ⟨#[120]⟩ false) w0 x0) (gs : List Nat) :
    ∀ s v, s + gs.length ≤ 16 → Ints w0 gs s → Chn w0 H x0 (gs.map fun g => (18, #[ptO g])) v → Hd noP anyS anyS (.agg #[u0, u1, u2, u3, u4, u5, u6, u7, u8, u9, u10, u11, u12]) (.ans 0 [] (ordN s gs.length) false) w0 v := by
  induction gs with
  | nil =>
    intro s v _ _ hch
    obtain rfl := hch.end
    exact h0
  | cons g gs ih =>
    intro s v hs hi hch
    obtain ⟨b, x, rfl, hb, hl, hc, hch⟩ := Chn.get hch
    have h1 := ih (s + 1) x (by simp at hs; omega) hi.2 hch
    have hz := ordN_size gs.length (s + 1) (by simp at hs; omega)
    exact order_hd (by omega) (by simp at hs; omega) (by simp at hs; omega) hi.1 (fun q => q) h1 (fun _ q => q.elim) (of_any _) (of_any _) hl (fun q => q) hc
end Go.Proofs.YtmncchgifgjhgaaDoor
