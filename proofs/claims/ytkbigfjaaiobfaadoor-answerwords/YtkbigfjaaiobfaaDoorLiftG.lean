/- What stands from the start, out of a row's list and of the shapes of variables. -/
import Derived.Test.YtkbigfjaaiobfaaDoorAnsMem
import Derived.Test.YtkbigfjaaiobfaaDoorLift
import Derived.SizedLaws
import Derived.Shelf.Vars
namespace Go.Proofs.YtkbigfjaaiobfaaDoor
open Go.ChangeShapes Go.WideShapes Go.ChangeAt Go.RowKit

theorem gb_shaped {W : World} (h : W.ShapedOpen Tryd.prog) (hp : ∃ t fr, W.heap[1]? = some (.cells (Lib.pow10Tab.map fun z => Value.int .u64 z).toArray t fr)) : GB W := by
  have h0 := cell_of_shapedOpen_int (g := 0) (t := 3) (zero := #[.int .i64 0]) (k := .i64) h (of_decide_eq_true (by kernel_rfl)) (by kernel_rfl) rfl (by kernel_rfl) (by kernel_rfl) Tryd.underlying3
  obtain ⟨cs, hh, _, _⟩ := h.1 7 (Array.replicate 64 (.int .u8 0)) 120 (of_decide_eq_true (by kernel_rfl)) (by kernel_rfl)
  exact ⟨hp, h0, blk_lt hh⟩

set_option maxRecDepth 100000 in
/-- A sentinel that stands alone on a list: its cell holds a value of an interface. -/
theorem iface_of_laid {W : World} {n : String} {d : DataW Unit} {tn : String} {d1 : DataW Unit} {g : Nat} (hn : Tryd.prog.globalNamed n = some g) (hty : (Tryd.prog.globals[g]?).map (·.type) = some 50) (hd : d = .iface tn d1) (h : laidMet Tryd.prog [(n, d)] W) :
    ∃ ev, W.cell? ⟨g, 0, none⟩ = some ev ∧ (ev = .nilIface ∨ ∃ te pe, ev = .iface te pe) := by
  obtain ⟨ps, ⟨g', t', cs, fuel, p, q, hg', ht', hvar, hdd, _, _⟩, _⟩ := h
  obtain rfl := Option.some.inj (hn.symm.trans hg')
  obtain rfl := Option.some.inj (hty.symm.trans ht')
  subst hd
  have hc := World.var?_cell hn hvar 0
  cases fuel with
  | zero => simp [DataW.trod] at hdd
  | succ fuel =>
    have hcases : cs.toList = [.nilIface] ∨ ∃ te pe, cs.toList = [.iface te pe] := by
      unfold DataW.trod at hdd
      rw [Tryd.underlying50] at hdd
      match hl : cs.toList with
      | [] => rw [hl] at hdd; simp at hdd
      | [x] =>
        rw [hl] at hdd
        cases x with
        | nilIface => exact .inl rfl
        | iface te pe => exact .inr ⟨te, pe, rfl⟩
        | _ => simp at hdd
      | x :: y :: r => rw [hl] at hdd; simp at hdd
    have hc0 : ∀ x, cs.toList = [x] → W.cell? ⟨g, 0, none⟩ = some x := fun x hx => by rw [hc, ← Array.getElem?_toList, hx]; rfl
    rcases hcases with hx | ⟨te, pe, hx⟩
    · exact ⟨_, hc0 _ hx, .inl rfl⟩
    · exact ⟨_, hc0 _ hx, .inr ⟨te, pe, rfl⟩⟩

theorem pow_of_tab {W : World} {n : String} {zs : List Int} (hn : Tryd.prog.globalNamed n = some 1) (h : Lib.TabIs Tryd.prog W n .u64 zs) (hz : zs = Lib.pow10Tab) : ∃ t fr, W.heap[1]? = some (.cells (Lib.pow10Tab.map fun z => Value.int .u64 z).toArray t fr) := by
  subst hz
  unfold Lib.TabIs World.var? at h
  rw [hn] at h
  simp only [Option.bind_some] at h
  split at h
  · rename_i cs t fr hk
    injection h with h
    exact ⟨t, fr, by rw [hk, h]⟩
  · cases h

section
variable {H : Type} {P : Program}
theorem weight_le {ts : List TypeId} {ds : List (DataW H)} {j : Nat} {t : TypeId} {d : DataW H} (hR : (DataW.weightsEach P ts ds).all (· ≤ reachBytes) = true) (ht : ts[j]? = some t) (hd : ds[j]? = some d) (n : Nat) (hn : n ∈ d.weights P t) : n ≤ 140737488355328 := by
  have h1 := List.all_eq_true.1 hR _ (DataW.weights_mem_each ht hd n hn)
  have h2 := reachBytes_lt
  simp at h1
  omega
end

end Go.Proofs.YtkbigfjaaiobfaaDoor
