/- Rows of the call's own, and builders, behind a call. -/
import Derived.Test.YtgfjkpfjajjidaaDoorPtKind
import Derived.Test.YtgfjkpfjajjidaaDoorBld
namespace Go.Proofs.YtgfjkpfjajjidaaDoor
open Go.RowKit Pl

theorem own_shape {w : World} {base : Nat} {v : Value} {n : Nat} {xs : List Value} (h : w.ownsRow base 9 1 v n xs) (hn : 0 < n) : ∃ g cap, v = .slice (some ⟨g, 0, none⟩) n cap ∧ base ≤ g ∧ g < w.heap.size ∧ n ≤ cap ∧ cap ≤ maxLen := by
  rcases h.2 with ⟨_, h0⟩ | ⟨g, cap, cur, hv, hb, hh, h1, h2, _⟩
  · omega
  · exact ⟨g, cap, hv, hb, blk_lt hh, h1, h2⟩

theorem own_below {w w' : World} {B : Nat} {e : TypeId} {k n : Nat} {v : Value} {xs : List Value} (h : w.ownsRow B e k v n xs) (hb : Below w.heap.size w w') : w'.ownsRow B e k v n xs := by
  refine ⟨h.1, ?_⟩
  rcases h.2 with hn | ⟨g, cap, cur, hv, hg, hh, r⟩
  · exact .inl hn
  · exact .inr ⟨g, cap, cur, hv, hg, (hb.block g (blk_lt hh)).trans hh, r⟩
theorem bld_below {B b : Nat} {bs : List Value} {w w' : World} (h : Lib.IsBuilder 137 5 B b bs w) (hb : Below w.heap.size w w') : Lib.IsBuilder 137 5 B b bs w' := by
  rcases h with ⟨h1, v, h2, h3, h4⟩ | ⟨h1, v, h2, h3, h4⟩
  · exact .inl ⟨h1, v, (hb.block b (blk_lt h2)).trans h2, own_below h3 hb, h4⟩
  · exact .inr ⟨h1, v, (hb.block b (blk_lt h2)).trans h2, own_below h3 hb, h4⟩


theorem ret_str {a b : ByteArray} {c d : Bool} (h : a = b) (k : c = d) : Ending.returned (.tuple #[.string a, .bool c]) = .returned (.tuple #[.string b, .bool d]) := by rw [h, k]
theorem new_builder (w : World) : Lib.IsBuilder 137 5 w.heap.size w.heap.size (Lib.byteCells []) (w.alloc (.cells #[.pointer none, .slice none 0 0] 137)) :=
  Or.inl ⟨Nat.le_refl _, .slice none 0 0, heap_alloc_new w _, World.ownsRow_nil _ _ _ _, by simp [Value.ownBlock]⟩

theorem set_done (ds : List (List UInt8)) (l : List (List UInt8)) (k : Nat) (h : k < l.length) (hd : ds.length = k) (t : List UInt8) : ((ds ++ l.drop k).map strV).set k (strV t) = ((ds ++ [t]) ++ l.drop (k + 1)).map strV := by
  rw [List.drop_eq_getElem_cons h]
  generalize l[k] = x
  generalize l.drop (k + 1) = r
  subst hd
  simp
theorem get_done (ds : List (List UInt8)) (l : List (List UInt8)) (k : Nat) (h : k < l.length) (hd : ds.length = k) : ((ds ++ l.drop k).map strV)[k]? = some (.string (mkB l[k])) := by
  rw [List.drop_eq_getElem_cons h]
  generalize l[k] = x
  generalize l.drop (k + 1) = r
  subst hd
  simp [strV_mk]
theorem own_wide {w : World} {B C : Nat} {e : TypeId} {k n : Nat} {v : Value} {xs : List Value} (h : w.ownsRow B e k v n xs) (hb : C ≤ B) : w.ownsRow C e k v n xs := by
  refine ⟨h.1, ?_⟩
  rcases h.2 with hn | ⟨g, cap, cur, hv, hg, r⟩
  · exact .inl hn
  · exact .inr ⟨g, cap, cur, hv, Nat.le_trans hb hg, r⟩

end Go.Proofs.YtgfjkpfjajjidaaDoor
