/- Calls and responses that are handed in by value, opened. -/
import Derived.Test.YtmncchgifgjhgaaDoorLifts
import Derived.Deep.Fields
namespace Go.Proofs.YtmncchgifgjhgaaDoor
open Go.ChangeShapes Go.WideShapes Go.ChangeAt Go.RowKit Go.Lib Go.Deep

section
variable {H : Type} {enc : TypeId × Value → H}

theorem weight_le {P : Program} {ts : List TypeId} {ds : List (DataW H)} {j : Nat} {t : TypeId} {d : DataW H} (hR : (DataW.weightsEach P ts ds).all (· ≤ reachBytes) = true) (ht : ts[j]? = some t) (hd : ds[j]? = some d) (n : Nat) (hn : n ∈ d.weights P t) : n ≤ 140737488355328 := by
  have h1 := List.all_eq_true.1 hR _ (DataW.weights_mem_each ht hd n hn)
  have h2 := reachBytes_lt
  simp at h1
  omega

theorem bytes42 : Tryd.prog.bytesOf 42 = 32 := by kernel_rfl
theorem bytes9 : Tryd.prog.bytesOf 9 = 16 := by kernel_rfl
theorem cells42 : Tryd.prog.cellsOf 42 = 2 := by kernel_rfl
theorem cells9 : Tryd.prog.cellsOf 9 = 1 := by kernel_rfl
theorem cells24 : Tryd.prog.cellsOf 24 = 5 := by kernel_rfl
theorem cells28 : Tryd.prog.cellsOf 28 = 3 := by kernel_rfl
theorem cells30 : Tryd.prog.cellsOf 30 = 13 := by kernel_rfl
theorem cells32 : Tryd.prog.cellsOf 32 = 4 := by kernel_rfl
theorem cells3 : Tryd.prog.cellsOf 3 = 1 := by kernel_rfl
theorem cells4 : Tryd.prog.cellsOf 4 = 1 := by kernel_rfl
theorem cells22 : Tryd.prog.cellsOf 22 = 1 := by kernel_rfl
theorem cells25 : Tryd.prog.cellsOf 25 = 1 := by kernel_rfl
theorem cells26 : Tryd.prog.cellsOf 26 = 1 := by kernel_rfl

/-- A slice of fields, at this program. -/
theorem fl_at {n : Nat} {w : World} {v : Value} {y : DataW H × List MemPlace} (h : DataW.trod enc Tryd.prog w 0 (fun _ => true) true n 22 [v] = some y) :
    ∃ (A : Option Addr) (fs : List Fld) (c : Nat), v = .slice A fs.length c ∧ Rd w w.heap.size 2 A fs.length (fldCells fs) ∧ (∀ f ∈ fs, f.1.size ∈ y.1.weights Tryd.prog 22 ∧ f.2.size ∈ y.1.weights Tryd.prog 22) ∧ (fs = [] ∨ ∃ k, (fs.length + k) * 32 ∈ y.1.weights Tryd.prog 22) := by
  obtain ⟨A, fs, c, h1, h2, h3, h4, h5⟩ := flds_at Tryd.underlying22 Tryd.underlying42 cells42 Tryd.underlying9 Tryd.underlying9 rfl rfl cells9 cells9 h
  rw [bytes42] at h5
  refine ⟨A, fs, c, h1, h2, h3, ?_⟩
  rcases h5 with h5 | h5 | h5
  · exact .inl h5
  · exact .inr ⟨0, h5⟩
  · exact .inr h5

theorem rsp_at {n : Nat} {w : World} {cs : List Value} {y : DataW H × List MemPlace} (h : DataW.trod enc Tryd.prog w 0 (fun _ => true) true n 32 cs = some y) :
    ∃ (st : Int) (A : Option Addr) (l : List Fld) (c : Nat) (b : ByteArray) (cl : Bool), cs = [.int .i64 st, .slice A l.length c, .string b, .bool cl] ∧ Rd w w.heap.size 2 A l.length (fldCells l) ∧ (l = [] ∨ ∃ k, (l.length + k) * 32 ∈ y.1.weights Tryd.prog 32) := by
  obtain ⟨xs, k, _, hy, hl4, hlen, hg⟩ := DataW.trod_struct Tryd.underlying32 h
  rw [cells32] at hl4
  match cs, hl4 with
  | [x0, x1, x2, x3], _ =>
    match xs, hlen with
    | [y0, y1, y2, y3], _ =>
      have q0 := hg 0 _ rfl; have q1 := hg 1 _ rfl; have q2 := hg 2 _ rfl; have q3 := hg 3 _ rfl
      simp [cells3, cells4, cells9, cells22] at q0 q1 q2 q3
      obtain ⟨z0, e0, _⟩ := DataW.trod_int Tryd.underlying3 q0
      obtain ⟨z2, e2, _⟩ := DataW.trod_string Tryd.underlying9 q2
      obtain ⟨z3, e3, _⟩ := DataW.trod_bool Tryd.underlying4 q3
      obtain rfl := (List.cons.inj e0).1
      obtain rfl := (List.cons.inj e2).1
      obtain rfl := (List.cons.inj e3).1
      obtain ⟨A, l, c, rfl, hr, _, hw⟩ := fl_at q1
      refine ⟨z0, A, l, c, z2, z3, rfl, hr, ?_⟩
      rcases hw with hw | ⟨j, hw⟩
      · exact .inl hw
      · refine .inr ⟨j, ?_⟩
        rw [hy, DataW.weights, Tryd.underlying32]
        simp only [List.map_cons, List.map_nil, DataW.weightsEach, List.mem_append]
        exact .inr (.inl hw)

theorem wf_i64 {n : Int} (h : (Lit.int .i64 n).wf = true) : I64 n := by
  simp only [Lit.wf, Bool.and_eq_true, decide_eq_true_eq] at h
  exact h

theorem call_at {n : Nat} {w : World} {cs : List Value} {y : DataW H × List MemPlace} (h : DataW.trod enc Tryd.prog w 0 (fun _ => true) true n 30 cs = some y) :
    ∃ c : Cl, cs = clCells c ∧ Rd w w.heap.size 2 c.A c.fs.length (fldCells c.fs) ∧ Rd w w.heap.size 1 c.B c.al.length (c.al.map .string) ∧ c.al.length ≤ c.ac ∧ (∀ f ∈ c.fs, f.1.size ∈ y.1.weights Tryd.prog 30 ∧ f.2.size ∈ y.1.weights Tryd.prog 30) ∧ (∀ x ∈ c.al, x.size ∈ y.1.weights Tryd.prog 30) ∧
      (c.fs = [] ∨ ∃ k, (c.fs.length + k) * 32 ∈ y.1.weights Tryd.prog 30) ∧ (c.al = [] ∨ ∃ k, (c.al.length + k) * 16 ∈ y.1.weights Tryd.prog 30) ∧
      c.m.size ∈ y.1.weights Tryd.prog 30 ∧ c.tg.size ∈ y.1.weights Tryd.prog 30 ∧ c.bd.size ∈ y.1.weights Tryd.prog 30 ∧ c.tk.size ∈ y.1.weights Tryd.prog 30 ∧ I64 c.cn ∧ I64 c.sq ∧ I64 c.vs := by
  obtain ⟨xs, k, _, hy, hl4, hlen, hg⟩ := DataW.trod_struct Tryd.underlying30 h
  rw [cells30] at hl4
  match cs, hl4 with
  | [x0, x1, x2, x3, x4, x5, x6, x7, x8, x9, x10, x11, x12], _ =>
    match xs, hlen with
    | [y0, y1, y2, y3, y4, y5, y6], _ =>
      have q0 := hg 0 _ rfl; have q1 := hg 1 _ rfl; have q2 := hg 2 _ rfl; have q3 := hg 3 _ rfl; have q4 := hg 4 _ rfl; have q5 := hg 5 _ rfl; have q6 := hg 6 _ rfl
      simp [cells3, cells4, cells9, cells24, cells28] at q0 q1 q2 q3 q4 q5 q6
      obtain ⟨z5, e5, _, i5⟩ := DataW.trod_int Tryd.underlying3 q1
      obtain ⟨z6, e6, _, i6⟩ := DataW.trod_int Tryd.underlying3 q2
      obtain ⟨z7, e7, _, i7⟩ := DataW.trod_int Tryd.underlying3 q3
      obtain ⟨z11, e11, _⟩ := DataW.trod_bool Tryd.underlying4 q5
      obtain ⟨z12, e12, d12, _⟩ := DataW.trod_string Tryd.underlying9 q6
      obtain rfl := (List.cons.inj e5).1
      obtain rfl := (List.cons.inj e6).1
      obtain rfl := (List.cons.inj e7).1
      obtain rfl := (List.cons.inj e11).1
      obtain rfl := (List.cons.inj e12).1
      obtain ⟨us, k1, _, hy0, _, hlen0, hg0⟩ := DataW.trod_struct Tryd.underlying24 q0
      obtain ⟨bs, k2, _, hy4, _, hlen4, hg4⟩ := DataW.trod_struct Tryd.underlying28 q4
      match us, hlen0, bs, hlen4 with
      | [a0, a1, a2, a3, a4], _, [b0, b1, b2], _ =>
        have r0 := hg0 0 _ rfl; have r1 := hg0 1 _ rfl; have r2 := hg0 2 _ rfl; have r3 := hg0 3 _ rfl; have r4 := hg0 4 _ rfl
        have t0 := hg4 0 _ rfl; have t2 := hg4 2 _ rfl
        simp [cells3, cells4, cells9, cells22, cells25, cells26] at r0 r1 r2 r3 r4 t0 t2
        obtain ⟨z0, e0, d0, _⟩ := DataW.trod_string Tryd.underlying9 r0
        obtain ⟨z1, e1, d1, _⟩ := DataW.trod_string Tryd.underlying9 r1
        obtain ⟨z3, e3, d3, _⟩ := DataW.trod_string Tryd.underlying9 r3
        obtain ⟨z4, e4, _⟩ := DataW.trod_bool Tryd.underlying4 r4
        obtain ⟨z8, e8, _⟩ := DataW.trod_string Tryd.underlying9 t0
        obtain rfl := (List.cons.inj e0).1
        obtain rfl := (List.cons.inj e1).1
        obtain rfl := (List.cons.inj e3).1
        obtain rfl := (List.cons.inj e4).1
        obtain rfl := (List.cons.inj e8).1
        obtain ⟨A, fs, fc, rfl, hr, hw, hwl⟩ := fl_at r2
        obtain ⟨B, al, ac, rfl, hrs, hws, hcap, hwsl⟩ := strs_at Tryd.underlying26 Tryd.underlying9 cells9 t2
        rw [bytes9] at hwsl
        have in0 : ∀ q ∈ y0.1.weights Tryd.prog 24, q ∈ y.1.weights Tryd.prog 30 := fun q hq => by
          rw [hy, DataW.weights, Tryd.underlying30]
          exact DataW.weights_mem_each (j := 0) rfl rfl q hq
        have in4 : ∀ q ∈ y4.1.weights Tryd.prog 28, q ∈ y.1.weights Tryd.prog 30 := fun q hq => by
          rw [hy, DataW.weights, Tryd.underlying30]
          exact DataW.weights_mem_each (j := 4) rfl rfl q hq
        have inr0 : ∀ (j : Nat) (x : DataW H × List MemPlace) (f : TypeId), [a0, a1, a2, a3, a4][j]? = some x → [9, 9, 22, 9, 4][j]? = some f → ∀ q ∈ x.1.weights Tryd.prog f, q ∈ y.1.weights Tryd.prog 30 := fun j x f hx hf q hq => in0 q (by
          rw [hy0, DataW.weights, Tryd.underlying24]
          exact DataW.weights_mem_each (j := j) (t := f) hf (by rw [List.getElem?_map, hx]; rfl) q hq)
        have inr4 : ∀ q ∈ b2.1.weights Tryd.prog 26, q ∈ y.1.weights Tryd.prog 30 := fun q hq => in4 q (by
          rw [hy4, DataW.weights, Tryd.underlying28]
          exact DataW.weights_mem_each (j := 2) rfl rfl q hq)
        have strw : ∀ (z : ByteArray) (x : DataW H × List MemPlace), x = (.lit (.string z.data.toList), []) → z.size ∈ x.1.weights Tryd.prog 9 := fun z x hx => by
          rw [hx]
          simp [DataW.weights]
        refine ⟨⟨z0, z1, A, fs, fc, z3, z4, z5, z6, z7, z8, x9, B, al, ac, z11, z12⟩, rfl, hr, hrs, hcap, fun f hf => ⟨inr0 2 a2 22 rfl rfl _ (hw f hf).1, inr0 2 a2 22 rfl rfl _ (hw f hf).2⟩, fun x hx => inr4 _ (hws x hx), ?_, ?_, inr0 0 a0 9 rfl rfl _ (strw _ _ d0), inr0 1 a1 9 rfl rfl _ (strw _ _ d1), inr0 3 a3 9 rfl rfl _ (strw _ _ d3), ?_, wf_i64 i5, wf_i64 i6, wf_i64 i7⟩
        · rcases hwl with hwl | ⟨j, hwl⟩
          · exact .inl hwl
          · exact .inr ⟨j, inr0 2 a2 22 rfl rfl _ hwl⟩
        · rcases hwsl with hwl | ⟨j, hwl⟩
          · exact .inl hwl
          · exact .inr ⟨j, inr4 _ hwl⟩
        · rw [hy, DataW.weights, Tryd.underlying30]
          exact DataW.weights_mem_each (j := 6) (t := 9) rfl rfl _ (strw _ _ d12)

theorem open_call {r0 : Reach} {b0 : Nat} {w : World} {v : Value} {d : DataW H} {p : List MemPlace} (hv : Value.okWide Tryd.prog w r0 b0 30 v) (h : DataW.Trod enc Tryd.prog w 0 (fun _ => true) true 30 v d p) (hR : ∀ q ∈ d.weights Tryd.prog 30, q ≤ 140737488355328) : ∃ c : Cl, v = c.v ∧ c.at w := by
  obtain ⟨cs, rfl, _⟩ := okWide_struct Tryd.underlying30 hv
  obtain ⟨fuel, hf⟩ := h
  obtain ⟨c, hcs, h1, h2, h3, h4, h5, h6, h7, h8, h9, h10, h11, h12, h13, h14⟩ := call_at hf
  refine ⟨c, ?_, ⟨h1, h2, h3, fun f hf' => ⟨hR _ (h4 f hf').1, hR _ (h4 f hf').2⟩, fun x hx => hR _ (h5 x hx), ?_, ?_, hR _ h8, hR _ h9, hR _ h10, hR _ h11, h12, h13, h14⟩⟩
  · obtain ⟨l⟩ := cs
    have : l = clCells c := by simpa [Value.cells] using hcs
    rw [this]
    rfl
  · rcases h6 with h6 | ⟨k, h6⟩
    · rw [h6]; simp
    · have := hR _ h6; omega
  · rcases h7 with h7 | ⟨k, h7⟩
    · rw [h7]; simp
    · have := hR _ h7; omega
theorem open_rspv {r0 : Reach} {b0 : Nat} {w : World} {v : Value} {d : DataW H} {p : List MemPlace} (hv : Value.okWide Tryd.prog w r0 b0 32 v) (h : DataW.Trod enc Tryd.prog w 0 (fun _ => true) true 32 v d p) (hR : ∀ q ∈ d.weights Tryd.prog 32, q ≤ 140737488355328) :
    ∃ (st : Int) (A : Option Addr) (l : List Fld) (n : Nat) (b : ByteArray) (cl : Bool), v = .agg #[.int .i64 st, .slice A l.length n, .string b, .bool cl] ∧ Rd w w.heap.size 2 A l.length (fldCells l) ∧ l.length ≤ 140737488355328 := by
  obtain ⟨cs, rfl, _⟩ := okWide_struct Tryd.underlying32 hv
  obtain ⟨fuel, hf⟩ := h
  obtain ⟨st, A, l, n, b, cl, hcs, h1, h2⟩ := rsp_at hf
  refine ⟨st, A, l, n, b, cl, ?_, h1, ?_⟩
  · obtain ⟨l'⟩ := cs
    have : l' = [.int .i64 st, .slice A l.length n, .string b, .bool cl] := by simpa [Value.cells] using hcs
    rw [this]
  · rcases h2 with h2 | ⟨k, h2⟩
    · rw [h2]; simp
    · have := hR _ h2; omega
end

end Go.Proofs.YtmncchgifgjhgaaDoor
