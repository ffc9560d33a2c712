/- The contract of path.turn. -/
import Derived.Test.YtejncdhdkdhpmaaDoorPtKind
import Derived.Test.YtejncdhdkdhpmaaDoorNumber
import Derived.Test.YtejncdhdkdhpmaaDoorBld
namespace Go.Proofs.YtejncdhdkdhpmaaDoor
open Go.RowKit Pl Go.Shelf

theorem own_shape {w : World} {base : Nat} {v : Value} {n : Nat} {xs : List Value} (h : w.ownsRow base 9 1 v n xs) (hn : 0 < n) : ∃ g cap, v = .slice (some ⟨g, 0, none⟩) n cap ∧ base ≤ g ∧ g < w.heap.size ∧ n ≤ cap ∧ cap ≤ maxLen := by
  rcases h.2 with ⟨_, h0⟩ | ⟨g, cap, cur, hv, hb, hh, h1, h2, _⟩
  · omega
  · exact ⟨g, cap, hv, hb, blk_lt hh, h1, h2⟩

theorem own_below {w w' : World} {B : Nat} {e : TypeId} {k n : Nat} {v : Value} {xs : List Value} (h : w.ownsRow B e k v n xs) (hb : Below w.heap.size w w') : w'.ownsRow B e k v n xs := by
  refine ⟨h.1, ?_⟩
  rcases h.2 with hn | ⟨g, cap, cur, hv, hg, hh, r⟩
  · exact .inl hn
  · exact .inr ⟨g, cap, cur, hv, hg, (hb.block g (blk_lt hh)).trans hh, r⟩
theorem bld_below {B b : Nat} {bs : List Value} {w w' : World} (h : Lib.IsBuilder 52 5 B b bs w) (hb : Below w.heap.size w w') : Lib.IsBuilder 52 5 B b bs w' := by
  rcases h with ⟨h1, v, h2, h3, h4⟩ | ⟨h1, v, h2, h3, h4⟩
  · exact .inl ⟨h1, v, (hb.block b (blk_lt h2)).trans h2, own_below h3 hb, h4⟩
  · exact .inr ⟨h1, v, (hb.block b (blk_lt h2)).trans h2, own_below h3 hb, h4⟩


theorem un_at (ps : List (List UInt8)) (k : Nat) (h : k < ps.length) (acc : List UInt8) : (unL (ps.drop k)).map (acc ++ ·) = if ps[k].length < 2 then none else match numB 16 (ps[k].take 2) with
    | none => none
    | some n => (unL (ps.drop (k + 1))).map (((acc ++ [UInt8.ofNat n.toNat]) ++ ps[k].drop 2) ++ ·) := by
  rw [List.drop_eq_getElem_cons h, unL]
  split
  · rfl
  · cases numB 16 (ps[k].take 2) with
    | none => rfl
    | some n => cases unL (ps.drop (k + 1)) <;> simp
theorem num_pair {l : List UInt8} (h : 2 ≤ l.length) {n : Int} (hn : numB 16 (l.take 2) = some n) : 0 ≤ n ∧ n < 256 := by
  match l, h with
  | a :: b :: r, _ => exact num_two_lt (by simpa using hn)

theorem ret_str {a b : ByteArray} {c d : Bool} (h : a = b) (k : c = d) : Ending.returned (.tuple #[.string a, .bool c]) = .returned (.tuple #[.string b, .bool d]) := by rw [h, k]
theorem new_builder (w : World) : Lib.IsBuilder 52 5 w.heap.size w.heap.size (Lib.byteCells []) (w.alloc (.cells #[.pointer none, .slice none 0 0] 52)) :=
  Or.inl ⟨Nat.le_refl _, .slice none 0 0, heap_alloc_new w _, World.ownsRow_nil _ _ _ _, by simp [Value.ownBlock]⟩

end Go.Proofs.YtejncdhdkdhpmaaDoor
