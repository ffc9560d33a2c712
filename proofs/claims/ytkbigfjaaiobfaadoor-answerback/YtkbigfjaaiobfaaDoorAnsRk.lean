/- Responses under letters, for the laws walks. -/
import Derived.Test.YtkbigfjaaiobfaaDoorRightUse
namespace Go.Proofs.YtkbigfjaaiobfaaDoor
open Go.RowKit Pl Go.Shelf

/-- What the walk is handed of one response: where it stands, what Right, Encode and same say of it. -/
structure RK (r : Rsp) (st : Int) (fl : Nat) (bd : ByteArray) (cl b : Bool) : Prop where
  st : r.st = st
  fl : r.fs.length = fl
  bd : r.body = bd
  cl : r.cl = cl
  b : rightB r = b

theorem RB.cs {w : World} {g : Nat} {r : Rsp} {A : Option Addr} {c : Nat} {st : Int} {fl : Nat} {bd : ByteArray} {cl b : Bool} (h : RB w g r A c) (k : RK r st fl bd cl b) :
    w.cell? ⟨g, 0, none⟩ = some (.int .i64 st) ∧ w.cell? ⟨g, 1, none⟩ = some (.slice A fl c) ∧ w.cell? ⟨g, 2, none⟩ = some (.string bd) ∧ w.cell? ⟨g, 3, none⟩ = some (.bool cl) := by
  obtain ⟨rfl, rfl, rfl, rfl, rfl⟩ := k
  exact ⟨h.c0, h.c1, h.c2, h.c3⟩
theorem right_rk {r : Rsp} {st : Int} {fl : Nat} {bd : ByteArray} {cl b : Bool} (k : RK r st fl bd cl b) {w : World} {g : Nat} {A : Option Addr} {c : Nat} (h : RB w g r A c) (hz : ∀ f ∈ r.fs, f.1.size ≤ 140737488355328 ∧ f.2.size ≤ 140737488355328) :
    Calls Tryd.prog 10 #[.agg #[.int .i64 st, .slice A fl c, .string bd, .bool cl]] w fun e w' => e = .returned (.bool b) ∧ Below w.heap.size w w' := by
  obtain ⟨rfl, rfl, rfl, rfl, rfl⟩ := k
  exact right_any r A c w h.fl hz
theorem enc_rk {r : Rsp} {st : Int} {fl : Nat} {bd : ByteArray} {cl : Bool} (k : RK r st fl bd cl true) {w : World} {g : Nat} {A : Option Addr} {c : Nat} (h : RB w g r A c) (hg : GB w) :
    Calls Tryd.prog 11 #[.agg #[.int .i64 st, .slice A fl c, .string bd, .bool cl]] w fun e w' => e = .returned (.string (mkB (encL r))) ∧ Below w.heap.size w w' := by
  obtain ⟨rfl, rfl, rfl, rfl, hb⟩ := k
  exact enc_right r hb A c w h.fl hg
theorem dec_rk {r : Rsp} {st : Int} {fl : Nat} {bd : ByteArray} {cl : Bool} (k : RK r st fl bd cl true) (more : List UInt8) (s : ByteArray) (hs : s.data.toList = encL r ++ more) (hl : s.size ≤ 1000000000) {w : World} (hg : GV w) :
    Calls Tryd.prog 12 #[.string s] w fun e w' => ∃ A c, e = .returned (.tuple #[.agg #[.int .i64 st, .slice A fl c, .string bd, .bool cl], .string (mkB more), .bool true]) ∧ RB (w'.alloc (.cells #[.int .i64 st, .slice A fl c, .string bd, .bool cl] 24)) w'.heap.size r A c ∧ Below w.heap.size w w' := by
  obtain ⟨rfl, rfl, rfl, rfl, hb⟩ := k
  exact (dec_back r (right_ok hb) more s hs hl w hg).mono fun e w' ⟨A, c, he, hr, hb⟩ => ⟨A, c, he, RB.new c hr, hb⟩
theorem same_rk {r : Rsp} {st : Int} {fl : Nat} {bd : ByteArray} {cl : Bool} (k : RK r st fl bd cl true) {w : World} {g1 g2 : Nat} {A1 A2 : Option Addr} {c1 c2 : Nat} (h1 : RB w g1 r A1 c1) (h2 : RB w g2 r A2 c2) :
    Calls Tryd.prog 13 #[.agg #[.int .i64 st, .slice A1 fl c1, .string bd, .bool cl], .agg #[.int .i64 st, .slice A2 fl c2, .string bd, .bool cl]] w fun e w' => e = .returned (.bool true) ∧ Below w.heap.size w w' := by
  obtain ⟨rfl, rfl, rfl, rfl, hb⟩ := k
  exact same_any r A1 A2 c1 c2 w (by have := (right_parts hb).2.2.1; omega) h1.fl h2.fl
theorem new_rk {r : Rsp} {st : Int} {fl : Nat} {bd : ByteArray} {cl b : Bool} (k : RK r st fl bd cl b) {w : World} {A : Option Addr} (c : Nat) (h : Rd w w.heap.size 2 A r.fs.length (fldCells r.fs)) : RB (w.alloc (.cells #[.int .i64 st, .slice A fl c, .string bd, .bool cl] 24)) w.heap.size r A c := by
  obtain ⟨rfl, rfl, rfl, rfl, rfl⟩ := k
  exact RB.new c h
theorem len_rk {r : Rsp} {st : Int} {fl : Nat} {bd : ByteArray} {cl : Bool} (k : RK r st fl bd cl true) : (mkB (encL r)).size ≤ 10000 := by
  rw [mkB_size]; exact right_len k.b
theorem rk_of (r : Rsp) : ∃ st fl bd cl b, RK r st fl bd cl b ∧ r.st = st ∧ r.fs.length = fl ∧ r.body = bd ∧ r.cl = cl := ⟨_, _, _, _, _, ⟨rfl, rfl, rfl, rfl, rfl⟩, rfl, rfl, rfl, rfl⟩

end Go.Proofs.YtkbigfjaaiobfaaDoor
