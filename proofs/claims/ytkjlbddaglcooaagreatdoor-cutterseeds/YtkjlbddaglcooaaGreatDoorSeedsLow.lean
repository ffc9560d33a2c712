/- Seeds as they are handed in, and Seed.Text for all of them; a row of requests, read; (*Cutter).Idle; Feed where all is done. -/
import Derived.Test.YtkjlbddaglcooaaGreatDoorTextBad
import Derived.Test.YtkjlbddaglcooaaGreatDoorLiftS
import Derived.Test.YtkjlbddaglcooaaGreatDoorBodies
namespace Go.Proofs.YtkjlbddaglcooaaGreatDoor
open Go.RowKit Pl
open Go.Lib (byteCells)

theorem rqCells_at (xs : List (Rq × Value)) (i : Nat) (h : i < xs.length) : (rqCells xs)[i * 5]? = some (.string (xs[i]).1.m) ∧ (rqCells xs)[i * 5 + 1]? = some (.string (xs[i]).1.t) ∧ (rqCells xs)[i * 5 + 2]? = some (xs[i]).2 ∧ (rqCells xs)[i * 5 + 3]? = some (.string (xs[i]).1.body) ∧ (rqCells xs)[i * 5 + 4]? = some (.bool (xs[i]).1.close) := by
  induction xs generalizing i with
  | nil => simp at h
  | cons x xs ih =>
    cases i with
    | zero => exact ⟨rfl, rfl, rfl, rfl, rfl⟩
    | succ i =>
      have := ih i (by simpa using h)
      have e : rqCells (x :: xs) = .string x.1.m :: .string x.1.t :: x.2 :: .string x.1.body :: .bool x.1.close :: rqCells xs := rfl
      rw [e, show (i + 1) * 5 = i * 5 + 1 + 1 + 1 + 1 + 1 from by omega]
      simpa using this
structure RqAt (w : World) (gv i : Nat) (r : Rq) (f : Value) : Prop where
  cm : w.cell? ⟨gv, i * 5, none⟩ = some (.string r.m)
  ct : w.cell? ⟨gv, i * 5 + 1, none⟩ = some (.string r.t)
  cf : w.cell? ⟨gv, i * 5 + 2, none⟩ = some f
  cb : w.cell? ⟨gv, i * 5 + 3, none⟩ = some (.string r.body)
  cc : w.cell? ⟨gv, i * 5 + 4, none⟩ = some (.bool r.close)
  fl : w.ownsRow 0 64 2 f r.fs.length (fldCells r.fs)
  lt : gv < w.heap.size
theorem rq_at {w : World} {gv cap n : Nat} {xs : List (Rq × Value)} (h : RQ w (.slice (some ⟨gv, 0, none⟩) n cap) xs) (i : Nat) (hi : i < xs.length) : RqAt w gv i (xs[i]).1 (xs[i]).2 := by
  obtain ⟨gv', cap', e, _, hl, hc⟩ := row_some h (by omega)
  injection e with e1 e2 e3
  injection e1 with e1
  injection e1 with e1
  subst e1
  obtain ⟨a0, a1, a2, a3, a4⟩ := rqCells_at xs i hi
  exact ⟨hc _ _ a0, hc _ _ a1, hc _ _ a2, hc _ _ a3, hc _ _ a4, h.fld _ (List.getElem_mem hi), hl⟩
theorem RqAt.below {w w' : World} {gv i : Nat} {r : Rq} {f : Value} (h : RqAt w gv i r f) (k : Below w.heap.size w w') : RqAt w' gv i r f :=
  ⟨(World.cell?_of_block (k.block gv h.lt)).trans h.cm, (World.cell?_of_block (k.block gv h.lt)).trans h.ct, (World.cell?_of_block (k.block gv h.lt)).trans h.cf, (World.cell?_of_block (k.block gv h.lt)).trans h.cb, (World.cell?_of_block (k.block gv h.lt)).trans h.cc, own_below h.fl k, Nat.lt_of_lt_of_le h.lt k.size⟩

def idleB (c : Cst) (l : List UInt8) : Bool := l.isEmpty && c.lines.isEmpty && c.bd.isNone
set_option maxHeartbeats 1000000 in
theorem cidle_any {P : Nat → Prop} {w : World} {g : Nat} {c : Cst} {l : List UInt8} (h : CO P w g c l) : Calls Tryz.prog 16 #[.pointer (some ⟨g, 0, none⟩)] w fun e w' => e = .returned (.bool (idleB c l)) ∧ w = w' := by
  obtain ⟨wv, lv, fv, bv, h⟩ := h
  obtain ⟨A, cap, rfl, _⟩ := h.wt
  obtain ⟨B, cal, hlv, _⟩ := Rd.own h.ln
  subst hlv
  have c0 := h.cell 0; have c1 := h.cell 1; have c7 := h.cell 7
  simp [ctCells] at c0 c1 c7
  have hbn := h.bn
  have hbs := h.bs
  clear h
  cases l with
  | cons b l =>
    have HE : Hid (idleB c (b :: l) = false) := rfl
    go_enter Tryz.func16, Tryz.ntmps16
    go_wp2_with fail
    go_ret
    exact ⟨ret_bool (by rw [HE.out]), rfl⟩
  | nil =>
    cases hl : c.lines with
    | cons b l =>
      have HE : Hid (idleB c [] = false) := by unfold idleB; rw [hl]; rfl
      rw [hl] at c1
      clear hl
      go_enter Tryz.func16, Tryz.ntmps16
      go_wp2_with fail
      go_ret
      exact ⟨ret_bool (by rw [HE.out]), rfl⟩
    | nil =>
      cases hb : c.bd with
      | none =>
        have HE : Hid (idleB c [] = true) := by unfold idleB; rw [hl, hb]; rfl
        have hbv := hbn hb
        subst hbv
        rw [hl] at c1
        clear hl hb hbn hbs
        go_enter Tryz.func16, Tryz.ntmps16
        go_wp2_with fail
        go_ret
        exact ⟨ret_bool (by rw [HE.out]), rfl⟩
      | some d =>
        have HE : Hid (idleB c [] = false) := by unfold idleB; rw [hl, hb]; rfl
        obtain ⟨gb, rfl, _⟩ := hbs d hb
        rw [hl] at c1
        clear hl hb hbn hbs
        go_enter Tryz.func16, Tryz.ntmps16
        go_wp2_with fail
        go_ret
        exact ⟨ret_bool (by rw [HE.out]), rfl⟩


theorem add_nextj (a : Addr) (m j : Nat) (hj : j ≠ 0) : (⟨(a.add m).block, (a.add m).off + j, none⟩ : Addr) = a.add (m + j) := by
  unfold Addr.add
  by_cases h : m = 0
  · simp [h, hj]
  · simp [h, Nat.add_assoc]
def sdOf (s : Sv) : Sd := ⟨(s.m % 256).toNat % 6, (s.t % 16).toNat, (s.b % 8).toNat, (s.k % 4).toNat, (s.c % 4).toNat, s.cl, (s.wr % 16).toNat⟩
theorem sdOf_ok (s : Sv) : (sdOf s).Ok := by
  refine ⟨?_, ?_, ?_, ?_, ?_⟩ <;> simp only [sdOf] <;> omega
theorem wrong_len (mi ti tk : Nat) (cl : Bool) (wk : Nat) (h1 : mi < 6) (h2 : ti < 16) (h4 : tk < 4) (h5 : 1 ≤ wk) (h6 : wk ≤ 3) : (wrongT mi ti tk cl wk).length ≤ 3000 := by
  have e1 := first_len mi ti h1 h2
  rcases wrong_all ⟨tk, h4⟩ cl ⟨wk, by omega⟩ with h0 | hr
  · simp at h0; omega
  · simp only [wrongOK, Bool.and_eq_true, decide_eq_true_eq] at hr
    obtain ⟨⟨⟨r1, r2⟩, r3⟩, r4⟩ := hr
    unfold wrongT
    rw [joinL]
    simp only [List.length_append, List.length_cons, List.length_nil]
    omega
theorem sd_len (s : Sd) (h : s.Ok) : s.text.length ≤ 3000 := by
  unfold Sd.text
  split
  · rename_i hb
    unfold Sd.bad at hb
    simp only [Bool.and_eq_true, decide_eq_true_eq] at hb
    exact wrong_len _ _ _ _ _ h.h1 h.h2 h.h4 hb.1 hb.2
  · exact seed_len _ _ _ _ _ _ h.h1 h.h2 h.h3 h.h4 h.h5
theorem sdText_len (l : List Sd) (h : ∀ s ∈ l, s.Ok) : (sdText l).length ≤ l.length * 3000 := by
  induction l with
  | nil => simp [sdText]
  | cons s l ih =>
    have h1 := sd_len s (h s (by simp))
    have h2 := ih fun x hx => h x (by simp [hx])
    rw [sdText_cons, List.length_append, List.length_cons]
    omega
/-- Seed.Text, of any seed. -/
theorem text_sv (s : Sv) (w : World) (htb : TB w) : Calls Tryz.prog 10 #[.agg #[.int .i64 s.m, .int .i64 s.t, .int .i64 s.b, .int .i64 s.k, .int .i64 s.c, .bool s.cl, .int .i64 s.wr]] w fun e w' => e = .returned (.string (mkT (sdOf s).text)) ∧ Below w.heap.size w w' := by
  have h0 : 0 ≤ s.wr % 16 := Int.emod_nonneg _ (by omega)
  have e0 : (s.m % 256 : Int) = ((s.m % 256).toNat : Int) := by omega
  have e1 : (s.t % 16 : Int) = ((s.t % 16).toNat : Int) := by omega
  have e2 : (s.b % 8 : Int) = ((s.b % 8).toNat : Int) := by omega
  have e3 : (s.k % 4 : Int) = ((s.k % 4).toNat : Int) := by omega
  have e4 : (s.c % 4 : Int) = ((s.c % 4).toNat : Int) := by omega
  have e5 : (s.wr % 16 : Int) = ((s.wr % 16).toNat : Int) := by omega
  cases hb : (sdOf s).bad with
  | true =>
    have hb2 : (decide (1 ≤ (s.wr % 16).toNat) && decide ((s.wr % 16).toNat ≤ 3)) = true := hb
    rw [Bool.and_eq_true, decide_eq_true_eq, decide_eq_true_eq] at hb2
    have hw : (s.wr % 16).toNat = 1 ∨ (s.wr % 16).toNat = 2 ∨ (s.wr % 16).toNat = 3 := by omega
    have h := text_bad s.m s.t s.b s.k s.c s.wr s.cl (s.m % 256).toNat ((s.m % 256).toNat % 6) (s.t % 16).toNat (s.b % 8).toNat (s.k % 4).toNat (s.c % 4).toNat (s.wr % 16).toNat e0 rfl e1 e2 e3 e4 e5 hw w htb
    have e : (sdOf s).text = wrongT ((s.m % 256).toNat % 6) (s.t % 16).toNat (s.k % 4).toNat s.cl (s.wr % 16).toNat := by
      unfold Sd.text
      rw [if_pos hb]
      rfl
    rw [e]
    exact h
  | false =>
    have hb2 : (decide (1 ≤ (s.wr % 16).toNat) && decide ((s.wr % 16).toNat ≤ 3)) = false := hb
    rw [Bool.and_eq_false_iff, decide_eq_false_iff_not, decide_eq_false_iff_not] at hb2
    have hw : (s.wr % 16).toNat = 0 ∨ 3 < (s.wr % 16).toNat := by omega
    have h := text_any s.m s.t s.b s.k s.c s.wr s.cl (s.m % 256).toNat ((s.m % 256).toNat % 6) (s.t % 16).toNat (s.b % 8).toNat (s.k % 4).toNat (s.c % 4).toNat (s.wr % 16).toNat e0 rfl e1 e2 e3 e4 e5 hw w htb
    have e : (sdOf s).text = seedT ((s.m % 256).toNat % 6) (s.t % 16).toNat (s.b % 8).toNat (s.k % 4).toNat (s.c % 4).toNat s.cl := by
      unfold Sd.text
      rw [if_neg (by rw [hb]; simp)]
      rfl
    rw [e]
    exact h
/-- Feed, where all is done. -/
theorem cfeed_done {P : Nat → Prop} {w : World} {g : Nat} {c : Cst} {l : List UInt8} (h : CO P w g c l) (hd : c.done = true) (s : ByteArray) : Calls Tryz.prog 13 #[.pointer (some ⟨g, 0, none⟩), .string s] w fun e w' => e = .returned (.tuple #[]) ∧ w = w' := by
  obtain ⟨wv, lv, fv, bv, h⟩ := h
  have c8 := h.cell 8
  simp [ctCells, hd] at c8
  clear h hd
  go_enter Tryz.func13, Tryz.ntmps13
  go_wp2_with fail
  go_end0
  exact ⟨rfl, rfl⟩
/-- The seven cells of a seed in a slice. -/
structure SvAt (w : World) (a : Addr) (k : Nat) (s : Sv) : Prop where
  c0 : w.cell? (a.add (k * 7)) = some (.int .i64 s.m)
  c1 : w.cell? ⟨(a.add (k * 7)).block, (a.add (k * 7)).off + 1, none⟩ = some (.int .i64 s.t)
  c2 : w.cell? ⟨(a.add (k * 7)).block, (a.add (k * 7)).off + 2, none⟩ = some (.int .i64 s.b)
  c3 : w.cell? ⟨(a.add (k * 7)).block, (a.add (k * 7)).off + 3, none⟩ = some (.int .i64 s.k)
  c4 : w.cell? ⟨(a.add (k * 7)).block, (a.add (k * 7)).off + 4, none⟩ = some (.int .i64 s.c)
  c5 : w.cell? ⟨(a.add (k * 7)).block, (a.add (k * 7)).off + 5, none⟩ = some (.bool s.cl)
  c6 : w.cell? ⟨(a.add (k * 7)).block, (a.add (k * 7)).off + 6, none⟩ = some (.int .i64 s.wr)
theorem sv_in {w : World} {B : Nat} {A : Option Addr} {ss : List Sv} (h : Rd w B 7 A ss.length (svCells ss)) (k : Nat) (hk : k < ss.length) : ∃ a : Addr, A = some a ∧ a.block < B ∧ SvAt w a k (ss[k]) := by
  obtain ⟨a, e, hl, hc⟩ := h.2 (by omega)
  have key : ∀ j u, j < 7 → (ss[k]).cells[j]? = some u → w.cell? (a.add (k * 7 + j)) = some u := fun j u hj hu => hc (k * 7 + j) u (by rw [sv_at ss k hk j hj]; exact hu)
  refine ⟨a, e, hl, key 0 _ (by omega) rfl, ?_, ?_, ?_, ?_, ?_, ?_⟩
  all_goals rw [add_nextj _ _ _ (by decide)]
  · exact key 1 _ (by omega) rfl
  · exact key 2 _ (by omega) rfl
  · exact key 3 _ (by omega) rfl
  · exact key 4 _ (by omega) rfl
  · exact key 5 _ (by omega) rfl
  · exact key 6 _ (by omega) rfl

end Go.Proofs.YtkjlbddaglcooaaGreatDoor
