/- What a law reads is read behind it as before, where nothing old has turned. The table of powers of ten, out of a row's list. -/
import Derived.Below
import Derived.ProofKit
import Derived.ChangeBook
import Derived.ChangeBears
import Derived.ChangeStays
import Derived.ChangeOld
import Derived.OpenShut
import Derived.ChangeSame
import Derived.SizedLaws
import Derived.Lib.LaidTab
import Derived.LaidSub
import Derived.MakeChecks
import Derived.Test.YthpklagnecoilaaDoorWt
namespace Go.Proofs.YthpklagnecoilaaDoor
open Go.ChangeShapes Go.WideShapes Go.ChangeAt Go.RowKit Go.Lib Go.Deep

section
variable {H : Type} {enc : TypeId × Value → H} {P : Program}

theorem arg_stays (hl : laidOutB P = true) {t : TypeId} (hr : P.readableRec t = true) (hrow : t < P.types.size) {W W' : World} (hb : Below W.heap.size W W') {v : Value} {d : DataW H} {p : List MemPlace}
    (h : DataW.Trod enc P W 0 (fun _ => true) true t v d p) : DataW.Trod enc P W' 0 (fun b => decide (b < W.heap.size)) true t v d p := by
  obtain ⟨n, hn⟩ := h
  have hlt := DataW.trod_lt n t _ _ hn
  exact ⟨n, DataW.trod_stays (kids_book hl hr) (book_sized hr) (fun h => by cases h) ⟨hrow, book_self t⟩ hn (fun p hp => hb.same (hlt p hp)) (fun p hp => by simpa using hlt p hp)⟩

theorem args_stay (hl : laidOutB P = true) {W W' : World} (hb : Below W.heap.size W W') : ∀ (ts : List TypeId) (vs : List Value) (ds : List (DataW H)) (ps : List MemPlace), (∀ t ∈ ts, P.readableRec t = true ∧ t < P.types.size) →
    DataW.TrodAll enc P W 0 (fun _ => true) true ts vs ds ps → DataW.TrodAll enc P W' 0 (fun b => decide (b < W.heap.size)) true ts vs ds ps
  | [], vs, ds, ps, _, h => by
    obtain ⟨rfl, rfl, rfl⟩ := trodAll_nil h
    exact trodAll_mk0
  | t :: ts, vs, ds, ps, hts, h => by
    obtain ⟨v0, vs0, d0, ds0, p0, q0, rfl, rfl, rfl, h0, r0⟩ := trodAll_cons h
    exact trodAll_cons_mk (arg_stays hl (hts t (by simp)).1 (hts t (by simp)).2 hb h0) (args_stay hl hb ts vs0 ds0 q0 (fun u hu => hts u (by simp [hu])) r0)

end

theorem Tryd.laidOutAll : laidOutB Tryd.prog = true := by kernel_rfl

theorem pow_of_tab {W : World} {n : String} {zs : List Int} (hn : Tryd.prog.globalNamed n = some 0) (h : Lib.TabIs Tryd.prog W n .u64 zs) (hz : zs = Lib.pow10Tab) : ∃ t fr, W.heap[0]? = some (.cells (Lib.pow10Tab.map fun z => Value.int .u64 z).toArray t fr) := by
  subst hz
  unfold Lib.TabIs World.var? at h
  rw [hn] at h
  simp only [Option.bind_some] at h
  split at h
  · rename_i cs t fr hk
    injection h with h
    exact ⟨t, fr, by rw [hk, h]⟩
  · cases h
theorem heap_lt {w : World} {g : Nat} {o : Obj} (h : w.heap[g]? = some o) : g < w.heap.size := (Array.getElem?_eq_some_iff.1 h).1

end Go.Proofs.YthpklagnecoilaaDoor
