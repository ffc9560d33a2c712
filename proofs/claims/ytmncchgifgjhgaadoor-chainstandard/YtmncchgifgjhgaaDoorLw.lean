/- What the laws share: what a law is handed; the light of it. -/
import Derived.Test.YtmncchgifgjhgaaDoorHl
namespace Go.Proofs.YtmncchgifgjhgaaDoor
open Go.RowKit Go.Shelf

theorem Row.old {P : Nat → Prop} {w w' : World} {A : Option Addr} {l : List Fld} (h : Rd w w.heap.size 2 A l.length (fldCells l)) (hb : Below w.heap.size w w') (hp : ∀ j, P j → w.heap.size ≤ j) : Row P w' A l := fun hn => by
  obtain ⟨a, e, hl, hc⟩ := h.2 (fun e => hn (List.eq_nil_of_length_eq_zero e))
  exact ⟨a, e, Nat.lt_of_lt_of_le hl hb.size, (fun q => by have := hp _ q; omega), fun j u hu => (hb.cell (p := a.add j) (by rw [add_block]; exact hl)).trans (hc j u hu)⟩
theorem RowS.old {P : Nat → Prop} {w w' : World} {A : Option Addr} {l : List ByteArray} (h : Rd w w.heap.size 1 A l.length (l.map .string)) (hb : Below w.heap.size w w') (hp : ∀ j, P j → w.heap.size ≤ j) : RowS P w' A l := fun hn => by
  obtain ⟨a, e, hl, hc⟩ := h.2 (fun e => hn (List.eq_nil_of_length_eq_zero e))
  exact ⟨a, e, Nat.lt_of_lt_of_le hl hb.size, (fun q => by have := hp _ q; omega), fun j u hu => (hb.cell (p := a.add j) (by rw [add_block]; exact hl)).trans (hc j u hu)⟩
theorem Cl.at.ok {c : Cl} {w w' : World} {P : Nat → Prop} (h : c.at w) (hl : c.light) (hb : Below w.heap.size w w') (hp : ∀ j, P j → w.heap.size ≤ j) : c.ok P w' :=
  ⟨Row.old h.row hb hp, RowS.old h.rowS hb hp, h.cap, by have := hl.aln; omega, hl.alz, by have := hl.fsn; omega, by have := hl.z1; omega, h.icn, h.isq, h.ivs⟩
/-- What a law is handed of a response. -/
structure RspIn (w : World) (st : Int) (A : Option Addr) (l : List Fld) (n : Nat) : Prop where
  row : Rd w w.heap.size 2 A l.length (fldCells l)
  len : l.length ≤ 140737488355328

end Go.Proofs.YtmncchgifgjhgaaDoor
