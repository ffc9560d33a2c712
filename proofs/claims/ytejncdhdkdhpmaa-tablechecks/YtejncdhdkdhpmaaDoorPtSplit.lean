/- The contract of path.Split. -/
import Derived.Test.YtejncdhdkdhpmaaDoorPtTurn
namespace Go.Proofs.YtejncdhdkdhpmaaDoor
open Go.RowKit Pl

theorem set_done (ds : List (List UInt8)) (l : List (List UInt8)) (k : Nat) (h : k < l.length) (hd : ds.length = k) (t : List UInt8) : ((ds ++ l.drop k).map strV).set k (strV t) = ((ds ++ [t]) ++ l.drop (k + 1)).map strV := by
  rw [List.drop_eq_getElem_cons h]
  generalize l[k] = x
  generalize l.drop (k + 1) = r
  subst hd
  simp
theorem get_done (ds : List (List UInt8)) (l : List (List UInt8)) (k : Nat) (h : k < l.length) (hd : ds.length = k) : ((ds ++ l.drop k).map strV)[k]? = some (.string (mkB l[k])) := by
  rw [List.drop_eq_getElem_cons h]
  generalize l[k] = x
  generalize l.drop (k + 1) = r
  subst hd
  simp [strV_mk]
theorem own_wide {w : World} {B C : Nat} {e : TypeId} {k n : Nat} {v : Value} {xs : List Value} (h : w.ownsRow B e k v n xs) (hb : C ≤ B) : w.ownsRow C e k v n xs := by
  refine ⟨h.1, ?_⟩
  rcases h.2 with hn | ⟨g, cap, cur, hv, hg, r⟩
  · exact .inl hn
  · exact .inr ⟨g, cap, cur, hv, Nat.le_trans hb hg, r⟩

end Go.Proofs.YtejncdhdkdhpmaaDoor
