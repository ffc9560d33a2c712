/- The contract of answer.Decode. -/
import Derived.Test.YtkbigfjaaiobfaaDoorAnsTake
namespace Go.Proofs.YtkbigfjaaiobfaaDoor
open Go.RowKit Pl Go.Shelf

def zeroR : Value := .agg #[.int .i64 0, .slice none 0 0, .string ⟨#[]⟩, .bool false]
def decV : Option (Rsp × List UInt8) → Value → Value
  | none, _ => .tuple #[.agg #[.int .i64 0, .slice none 0 0, .string ⟨#[]⟩, .bool false], .string ⟨#[]⟩, .bool false]
  | some p, fv => .tuple #[.agg #[.int .i64 p.1.st, fv, .string p.1.body, .bool p.1.cl], .string (mkB p.2), .bool true]
def decOwn (w w' : World) (fv : Value) : Option (Rsp × List UInt8) → Prop
  | none => True
  | some p => w'.ownsRow w.heap.size 35 2 fv p.1.fs.length (fldCells p.1.fs)

def put4 (W : World) (R : Nat) (u0 u1 u2 u3 : Value) : World := (((W.setCell ⟨R, 0, none⟩ u0).setCell ⟨R, 1, none⟩ u1).setCell ⟨R, 2, none⟩ u2).setCell ⟨R, 3, none⟩ u3
theorem put4_blk {W : World} {R : Nat} {z0 z1 z2 z3 : Value} (h : W.heap[R]? = some (.cells #[z0, z1, z2, z3] 24 (0, 0))) (u0 u1 u2 u3 : Value) : (put4 W R u0 u1 u2 u3).heap[R]? = some (.cells #[u0, u1, u2, u3] 24 (0, 0)) := by
  unfold put4
  rw [set_same 3 (set_same 2 (set_same 1 (set_same 0 h)))]
  rfl
theorem put4_far {W : World} {R k : Nat} (hk : k ≠ R) (u0 u1 u2 u3 : Value) : (put4 W R u0 u1 u2 u3).heap[k]? = W.heap[k]? := by
  unfold put4
  rw [Below.heap_setCell _ _ _ _ (by simpa using hk), Below.heap_setCell _ _ _ _ (by simpa using hk), Below.heap_setCell _ _ _ _ (by simpa using hk), Below.heap_setCell _ _ _ _ (by simpa using hk)]
theorem put4_below {w W : World} {R : Nat} (h : Below w.heap.size w W) (hR : w.heap.size ≤ R) (u0 u1 u2 u3 : Value) : Below w.heap.size w (put4 W R u0 u1 u2 u3) :=
  (((h.setCell (p := ⟨R, 0, none⟩) hR _).setCell (p := ⟨R, 1, none⟩) hR _).setCell (p := ⟨R, 2, none⟩) hR _).setCell (p := ⟨R, 3, none⟩) hR _
theorem put4_own {W : World} {R base : Nat} {e : TypeId} {k n : Nat} {v : Value} {xs : List Value} (h : W.ownsRow base e k v n xs) (hR : R < base) (u0 u1 u2 u3 : Value) : (put4 W R u0 u1 u2 u3).ownsRow base e k v n xs := by
  refine ⟨h.1, ?_⟩
  rcases h.2 with hn | ⟨g, cap, cur, hv, hg, hh, r⟩
  · exact .inl hn
  · exact .inr ⟨g, cap, cur, hv, hg, (put4_far (by omega) _ _ _ _).trans hh, r⟩
theorem own_lower {W : World} {base B : Nat} {e : TypeId} {k n : Nat} {v : Value} {xs : List Value} (h : W.ownsRow B e k v n xs) (hB : base ≤ B) : W.ownsRow base e k v n xs := by
  refine ⟨h.1, ?_⟩
  rcases h.2 with hn | ⟨g, cap, cur, hv, hg, r⟩
  · exact .inl hn
  · exact .inr ⟨g, cap, cur, hv, by omega, r⟩
theorem put4_ret {W : World} {R : Nat} {a : Act} {X : Ending → World → Prop} {z0 z1 z2 z3 b c : Value} (h : W.heap[R]? = some (.cells #[z0, z1, z2, z3] 24 (0, 0))) (u0 u1 u2 u3 : Value) (ha : a.tmps.getD 2 undef = .pointer (some ⟨R, 0, none⟩)) (hb3 : a.tmps.getD 3 undef = b) (hb4 : a.tmps.getD 4 undef = c) (hd : a.defers = [])
    (hQ : X (.returned (.tuple #[.agg #[u0, u1, u2, u3], b, c])) (put4 W R u0 u1 u2 u3)) : bodyPost Tryd.prog Tryd.f12 X .ret a (put4 W R u0 u1 u2 u3) := by
  have hb := put4_blk h u0 u1 u2 u3
  generalize put4 W R u0 u1 u2 u3 = V at *
  have c0 := blk_cell hb 0
  have c1 := blk_cell hb 1
  have c2 := blk_cell hb 2
  have c3 := blk_cell hb 3
  simp at c0 c1 c2 c3
  simp at ha hb3 hb4
  exact bodyPost_ret (v := .tuple #[.agg #[u0, u1, u2, u3], b, c]) (by simp [results, Tryd.results12, go_sem, ha, hb3, hb4, c0, c1, c2, c3]) hd hQ

theorem FsOf.len {s : List UInt8} {fs : List Fld} {r : List UInt8} (h : FsOf s fs r) : r.length ≤ s.length := by
  induction h with
  | stop _ => exact Nat.le_refl _
  | @next s r f fs _ _ ih => exact Nat.le_trans ih (cut_len s crlf).2

theorem dec_none {s : List UInt8} (h : statusL (Lib.cut s crlf).1 = none) : DecOf s none := by unfold DecOf; rw [h]
theorem dec_body {s : List UInt8} {st : Int} (h : statusL (Lib.cut s crlf).1 = some st) {fs : List Fld} {r : List UInt8} (hf : FsOf (Lib.cut s crlf).2.1 fs r) : DecOf s ((bodyL (Lib.trimPrefix r closingL)).map fun p => (⟨st, fs, mkB p.1, Lib.hasPrefix r closingL⟩, p.2)) := by
  unfold DecOf; rw [h]; exact ⟨fs, r, hf, rfl⟩

set_option maxRecDepth 100000 in
set_option maxHeartbeats 4000000 in
theorem dec_any (s : ByteArray) (hs : s.size ≤ 1000000000) (w : World) (hg : GV w) :
    Calls Tryd.prog 12 #[.string s] w fun e w' => ∃ o fv, DecOf s.data.toList o ∧ e = .returned (decV o fv) ∧ decOwn w w' fv o ∧ Below w.heap.size w w' := by
  have HB0 := Lib.hid ((Below.refl w.heap.size w).alloc (Nat.le_refl _) (.cells #[.int .i64 0, .slice none 0 0, .string ⟨#[]⟩, .bool false] 24))
  have HK0 := Lib.hid (heap_alloc_new w (.cells #[.int .i64 0, .slice none 0 0, .string ⟨#[]⟩, .bool false] 24))
  have HG0 := Lib.hid (hg.on HB0.out)
  have hlen := cut_len s.data.toList crlf
  rw [data_len] at hlen
  have HC := Lib.hid (fun w (hg : GV w) => cutc_any s ⟨#[13, 10]⟩ w (by omega) hg.toGB)
  change Hid (∀ w, GV w → Calls Tryd.prog 23 _ w fun e w' => e = .returned (cutV s.data.toList crlf) ∧ _) at HC
  unfold cutV at HC
  have HS := Lib.hid (fun w hg => status_any (mkB (Lib.cut s.data.toList crlf).1) (by rw [mkB_size]; omega) w hg)
  have HF := Lib.hid (fun w hg => tfields_any (mkB (Lib.cut s.data.toList crlf).2.1) (by rw [mkB_size]; omega) w hg)
  simp only [mkB_data] at HS HF
  clear hg
  cases hst : statusL (Lib.cut s.data.toList crlf).1 with
  | none =>
    have HD := Lib.hid (dec_none hst)
    rw [hst] at HS
    simp only [Option.isSome_none] at HS
    clear hst HF
    generalize mkB (Lib.cut s.data.toList crlf).1 = X at *
    generalize mkB (Lib.cut s.data.toList crlf).2.1 = Y at *
    generalize (Lib.cut s.data.toList crlf).2.2 = b at *
    go_enter Tryd.func12, Tryd.ntmps12
    go_wp2_with fail
    generalize w.alloc (.cells #[.int .i64 0, .slice none 0 0, .string ⟨#[]⟩, .bool false] 24) = w0 at *
    refine (HC.out w0 HG0.out).mono ?_
    rintro e w1 ⟨rfl, hb1⟩
    have HB1 := Lib.hid hb1
    clear hb1
    go_wp2_with fail
    refine (HS.out w1 (HG0.out.on HB1.out)).mono ?_
    rintro e w2 ⟨v, rfl, hv, hb2⟩
    clear hv
    have hb1 := bt HB1.out hb2
    have hk := (hb1.block _ (blk_lt HK0.out)).trans HK0.out
    have HB2 := Lib.hid (bt HB0.out hb1)
    have c0 := blk_cell hk 0; have c1 := blk_cell hk 1; have c2 := blk_cell hk 2; have c3 := blk_cell hk 3
    have f0 := blk_free hk 0; have f1 := blk_free hk 1; have f2 := blk_free hk 2; have f3 := blk_free hk 3
    simp at c0 c1 c2 c3
    have HK := Lib.hid hk
    clear hb1 hk hb2
    go_wp2_with fail
    refine put4_ret (W := w2) HK.out (.int .i64 0) (.slice none 0 0) (.string ⟨#[]⟩) (.bool false) rfl rfl rfl rfl ?_
    exact ⟨none, .bool false, HD.out, rfl, trivial, put4_below HB2.out (Nat.le_refl _) _ _ _ _⟩
  | some st =>
    have HD := Lib.hid (fun fs r hf => dec_body (fs := fs) (r := r) hst hf)
    rw [hst] at HS
    simp only [Option.isSome_some] at HS
    clear hst
    have hYl : (Lib.cut s.data.toList crlf).2.1.length ≤ s.size := hlen.2
    generalize mkB (Lib.cut s.data.toList crlf).1 = X at *
    generalize (Lib.cut s.data.toList crlf).2.1 = y at *
    generalize mkB y = Y at *
    generalize (Lib.cut s.data.toList crlf).2.2 = b at *
    go_enter Tryd.func12, Tryd.ntmps12
    go_wp2_with fail
    generalize w.alloc (.cells #[.int .i64 0, .slice none 0 0, .string ⟨#[]⟩, .bool false] 24) = w0 at *
    refine (HC.out w0 HG0.out).mono ?_
    rintro e w1 ⟨rfl, hb1⟩
    have HB1 := Lib.hid hb1
    clear hb1
    go_wp2_with fail
    refine (HS.out w1 (HG0.out.on HB1.out)).mono ?_
    rintro e w2 ⟨v, rfl, hv, hb2⟩
    obtain rfl := hv.1 st rfl
    clear hv
    have HB2 := Lib.hid (bt HB1.out hb2)
    clear hb2
    go_wp2_with fail
    refine (HF.out w2 (HG0.out.on HB2.out)).mono ?_
    rintro e w3 ⟨fs, r, fv, hfs, rfl, hown, hb3⟩
    have HB3 := Lib.hid (bt HB2.out hb3)
    have HDD := Lib.hid (HD.out fs r hfs)
    have hrl := hfs.len
    have HOW := Lib.hid hown
    obtain ⟨A, cap, hfv, _⟩ := Rd.own hown
    subst hfv
    clear hb3 hfs hown HD
    have HCP := Lib.hid (cutp_any (mkB r) ⟨#[99, 111, 110, 110, 101, 99, 116, 105, 111, 110, 58, 32, 99, 108, 111, 115, 101, 13, 10]⟩ w3)
    simp only [mkB_data] at HCP
    change Hid (Calls Tryd.prog 26 _ w3 fun e w' => e = .returned (.tuple #[.string (mkB (Lib.trimPrefix r closingL)), .bool (Lib.hasPrefix r closingL)]) ∧ w3 = w') at HCP
    have htl := trim_len r closingL
    have HBO := Lib.hid (body_any (mkB (Lib.trimPrefix r closingL)) (by rw [mkB_size]; omega) w3 (HG0.out.on HB3.out))
    simp only [mkB_data] at HBO
    generalize Lib.trimPrefix r closingL = t at *
    generalize Lib.hasPrefix r closingL = cl at *
    generalize mkB r = RR at *
    generalize mkB t = TT at *
    go_wp2_with fail
    refine HCP.out.mono ?_
    rintro e w4 ⟨rfl, rfl⟩
    go_wp2_with fail
    refine HBO.out.mono ?_
    rintro e w5 ⟨rfl, hb5⟩
    have hb1 := bt HB3.out hb5
    have hk := (hb1.block _ (blk_lt HK0.out)).trans HK0.out
    have HB5 := Lib.hid (bt HB0.out hb1)
    have HO5 := Lib.hid (own_below HOW.out hb5)
    have hlt2 : w.heap.size < w2.heap.size := Nat.lt_of_lt_of_le (blk_lt HK0.out) HB2.out.size
    have c0 := blk_cell hk 0; have c1 := blk_cell hk 1; have c2 := blk_cell hk 2; have c3 := blk_cell hk 3
    have f0 := blk_free hk 0; have f1 := blk_free hk 1; have f2 := blk_free hk 2; have f3 := blk_free hk 3
    simp at c0 c1 c2 c3
    have HK := Lib.hid hk
    have HL2 := Lib.hid hlt2
    clear hb1 hk hb5 hlt2
    cases hbo : bodyL t with
    | none =>
      rw [hbo] at HDD
      unfold bodyV
      simp only
      clear hbo
      go_wp2_with fail
      refine put4_ret (W := w5) HK.out (.int .i64 0) (.slice none 0 0) (.string ⟨#[]⟩) (.bool false) rfl rfl rfl rfl ?_
      exact ⟨none, .bool false, HDD.out, rfl, trivial, put4_below HB5.out (Nat.le_refl _) _ _ _ _⟩
    | some p =>
      rw [hbo] at HDD
      unfold bodyV
      simp only
      clear hbo
      obtain ⟨p1, p2⟩ := p
      simp only [Option.map_some] at HDD
      simp only
      generalize mkB p1 = P1 at *
      go_wp2_with fail
      refine put4_ret (W := w5) HK.out (.int .i64 v) (.slice A fs.length cap) (.string P1) (.bool cl) rfl rfl rfl rfl ?_
      exact ⟨_, .slice A fs.length cap, HDD.out, rfl, own_lower (put4_own HO5.out HL2.out _ _ _ _) (Nat.le_of_lt HL2.out), put4_below HB5.out (Nat.le_refl _) _ _ _ _⟩

end Go.Proofs.YtkbigfjaaiobfaaDoor
