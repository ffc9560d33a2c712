/- The contracts of answer.fieldOf and answer.takeFields. -/
import Derived.Test.YtkbigfjaaiobfaaDoorAnsFld
import Derived.Test.YtkbigfjaaiobfaaDoorAnsEnc
namespace Go.Proofs.YtkbigfjaaiobfaaDoor
open Go.RowKit Pl Go.Shelf

def fldV : Option Fld → Value
  | none => .tuple #[.agg #[.string ⟨#[]⟩, .string ⟨#[]⟩], .bool false]
  | some f => .tuple #[.agg #[.string f.1, .string f.2], .bool true]

def put2 (W : World) (R : Nat) (u0 u1 : Value) : World := (W.setCell ⟨R, 0, none⟩ u0).setCell ⟨R, 1, none⟩ u1
theorem set_same {w : World} {g : Nat} {cs : Array Value} {t : TypeId} {v : Value} (i : Nat) (h : w.heap[g]? = some (.cells cs t (0, 0))) : (w.setCell ⟨g, i, none⟩ v).heap[g]? = some (.cells (cs.setIfInBounds i v) t (0, 0)) := Go.Joins.block_setCell h v
theorem put2_blk {W : World} {R : Nat} {z0 z1 : Value} (h : W.heap[R]? = some (.cells #[z0, z1] 35 (0, 0))) (u0 u1 : Value) : (put2 W R u0 u1).heap[R]? = some (.cells #[u0, u1] 35 (0, 0)) := by
  unfold put2
  rw [set_same 1 (set_same 0 h)]
  rfl
theorem put2_below {w W : World} {R : Nat} (h : Below w.heap.size w W) (hR : w.heap.size ≤ R) (u0 u1 : Value) : Below w.heap.size w (put2 W R u0 u1) :=
  (h.setCell (p := ⟨R, 0, none⟩) hR _).setCell (p := ⟨R, 1, none⟩) hR _
theorem put2_ret {W : World} {R : Nat} {a : Act} {X : Ending → World → Prop} {z0 z1 b : Value} (h : W.heap[R]? = some (.cells #[z0, z1] 35 (0, 0))) (u0 u1 : Value) (ha : a.tmps.getD 2 undef = .pointer (some ⟨R, 0, none⟩)) (hb3 : a.tmps.getD 3 undef = b) (hd : a.defers = [])
    (hQ : X (.returned (.tuple #[.agg #[u0, u1], b])) (put2 W R u0 u1)) : bodyPost Tryd.prog Tryd.f36 X .ret a (put2 W R u0 u1) := by
  have hb := put2_blk h u0 u1
  generalize put2 W R u0 u1 = V at *
  have c0 := blk_cell hb 0
  have c1 := blk_cell hb 1
  simp at c0 c1
  simp at ha hb3
  exact bodyPost_ret (v := .tuple #[.agg #[u0, u1], b]) (by simp [results, Tryd.results36, go_sem, ha, hb3, c0, c1]) hd hQ

theorem fld_yes {line : List UInt8} {a b : List UInt8} (hc : Lib.cut line colon = (a, b, true)) (h : nameOk a = true) (k : valOk b = true) : fldL line = some (mkB a, mkB b) := by
  unfold fldL; simp [hc, h, k]
theorem fld_no1 {line : List UInt8} {a b : List UInt8} (hc : Lib.cut line colon = (a, b, false)) : fldL line = none := by
  unfold fldL; simp [hc]
theorem fld_no2 {line : List UInt8} {a b : List UInt8} (hc : Lib.cut line colon = (a, b, true)) (h : nameOk a = false) : fldL line = none := by
  unfold fldL; simp [hc, h]
theorem fld_no3 {line : List UInt8} {a b : List UInt8} (hc : Lib.cut line colon = (a, b, true)) (h : nameOk a = true) (k : valOk b = false) : fldL line = none := by
  unfold fldL; simp [hc, h, k]

set_option maxHeartbeats 2000000 in
theorem fldof_any (s : ByteArray) (hs : s.size ≤ 1000000000) (w : World) (hg : GV w) :
    Calls Tryd.prog 36 #[.string s] w fun e w' => e = .returned (fldV (fldL s.data.toList)) ∧ Below w.heap.size w w' := by
  have HB0 := Lib.hid ((Below.refl w.heap.size w).alloc (Nat.le_refl _) (.cells #[.string ⟨#[]⟩, .string ⟨#[]⟩] 35))
  have HK0 := Lib.hid (heap_alloc_new w (.cells #[.string ⟨#[]⟩, .string ⟨#[]⟩] 35))
  have HG0 := Lib.hid (hg.on HB0.out)
  have hlen := cut_len s.data.toList colon
  rw [data_len] at hlen
  obtain ⟨a, b, f, hcut⟩ : ∃ a b f, Lib.cut s.data.toList colon = (a, b, f) := ⟨_, _, _, rfl⟩
  have HC := Lib.hid (fun w (hg : GV w) => cutc_any s ⟨#[58, 32]⟩ w (by omega) hg.toGB)
  change Hid (∀ w, GV w → Calls Tryd.prog 23 _ w fun e w' => e = .returned (cutV s.data.toList colon) ∧ _) at HC
  unfold cutV at HC
  rw [hcut] at HC hlen
  simp only at HC hlen
  have HN := Lib.hid (fun w => fname_any (mkB a) w (by rw [mkB_size]; omega))
  have HV := Lib.hid (fun w => fval_any (mkB b) w (by rw [mkB_size]; omega))
  simp only [mkB_data] at HN HV
  clear hg
  cases f with
  | false =>
    have HF := Lib.hid (fld_no1 hcut)
    clear hcut
    generalize fldL s.data.toList = o at *
    generalize mkB a = A at *
    generalize mkB b = B at *
    go_enter Tryd.func36, Tryd.ntmps36
    go_wp2_with fail
    generalize w.alloc (.cells #[.string ⟨#[]⟩, .string ⟨#[]⟩] 35) = w0 at *
    refine (HC.out w0 HG0.out).mono ?_
    rintro e w1 ⟨rfl, hb1⟩
    have hk := (hb1.block _ (blk_lt HK0.out)).trans HK0.out
    have HB1 := Lib.hid (bt HB0.out hb1)
    have c0 := blk_cell hk 0; have c1 := blk_cell hk 1
    have f0 := blk_free hk 0; have f1 := blk_free hk 1
    simp at c0 c1
    have HK := Lib.hid hk
    clear hb1 hk
    go_wp2_with fail
    refine put2_ret (W := w1) HK.out (.string ⟨#[]⟩) (.string ⟨#[]⟩) rfl rfl rfl ?_
    exact ⟨by rw [HF.out]; rfl, put2_below HB1.out (Nat.le_refl _) _ _⟩
  | true =>
    cases hn : nameOk a with
    | false =>
      have HF := Lib.hid (fld_no2 hcut hn)
      rw [hn] at HN
      clear hcut hn
      generalize fldL s.data.toList = o at *
      generalize mkB a = A at *
      generalize mkB b = B at *
      go_enter Tryd.func36, Tryd.ntmps36
      go_wp2_with fail
      generalize w.alloc (.cells #[.string ⟨#[]⟩, .string ⟨#[]⟩] 35) = w0 at *
      refine (HC.out w0 HG0.out).mono ?_
      rintro e w1 ⟨rfl, hb1⟩
      have HB1 := Lib.hid hb1
      clear hb1
      go_wp2_with fail
      refine (HN.out w1).mono ?_
      rintro e w2 ⟨rfl, hb2⟩
      have hb1 := bt HB1.out hb2
      have hk := (hb1.block _ (blk_lt HK0.out)).trans HK0.out
      have HB2 := Lib.hid (bt HB0.out hb1)
      have c0 := blk_cell hk 0; have c1 := blk_cell hk 1
      have f0 := blk_free hk 0; have f1 := blk_free hk 1
      simp at c0 c1
      have HK := Lib.hid hk
      clear hb1 hk hb2
      go_wp2_with fail
      refine put2_ret (W := w2) HK.out (.string ⟨#[]⟩) (.string ⟨#[]⟩) rfl rfl rfl ?_
      exact ⟨by rw [HF.out]; rfl, put2_below HB2.out (Nat.le_refl _) _ _⟩
    | true =>
      cases hv : valOk b with
      | false =>
        have HF := Lib.hid (fld_no3 hcut hn hv)
        rw [hn] at HN
        rw [hv] at HV
        clear hcut hn hv
        generalize fldL s.data.toList = o at *
        generalize mkB a = A at *
        generalize mkB b = B at *
        go_enter Tryd.func36, Tryd.ntmps36
        go_wp2_with fail
        generalize w.alloc (.cells #[.string ⟨#[]⟩, .string ⟨#[]⟩] 35) = w0 at *
        refine (HC.out w0 HG0.out).mono ?_
        rintro e w1 ⟨rfl, hb1⟩
        have HB1 := Lib.hid hb1
        clear hb1
        go_wp2_with fail
        refine (HN.out w1).mono ?_
        rintro e w2 ⟨rfl, hb2⟩
        have HB2 := Lib.hid (bt HB1.out hb2)
        clear hb2
        go_wp2_with fail
        refine (HV.out w2).mono ?_
        rintro e w3 ⟨rfl, hb3⟩
        have hb1 := bt HB2.out hb3
        have hk := (hb1.block _ (blk_lt HK0.out)).trans HK0.out
        have HB3 := Lib.hid (bt HB0.out hb1)
        have c0 := blk_cell hk 0; have c1 := blk_cell hk 1
        have f0 := blk_free hk 0; have f1 := blk_free hk 1
        simp at c0 c1
        have HK := Lib.hid hk
        clear hb1 hk hb3
        go_wp2_with fail
        refine put2_ret (W := w3) HK.out (.string ⟨#[]⟩) (.string ⟨#[]⟩) rfl rfl rfl ?_
        exact ⟨by rw [HF.out]; rfl, put2_below HB3.out (Nat.le_refl _) _ _⟩
      | true =>
        have HF := Lib.hid (fld_yes hcut hn hv)
        rw [hn] at HN
        rw [hv] at HV
        clear hcut hn hv
        generalize fldL s.data.toList = o at *
        generalize mkB a = A at *
        generalize mkB b = B at *
        go_enter Tryd.func36, Tryd.ntmps36
        go_wp2_with fail
        generalize w.alloc (.cells #[.string ⟨#[]⟩, .string ⟨#[]⟩] 35) = w0 at *
        refine (HC.out w0 HG0.out).mono ?_
        rintro e w1 ⟨rfl, hb1⟩
        have HB1 := Lib.hid hb1
        clear hb1
        go_wp2_with fail
        refine (HN.out w1).mono ?_
        rintro e w2 ⟨rfl, hb2⟩
        have HB2 := Lib.hid (bt HB1.out hb2)
        clear hb2
        go_wp2_with fail
        refine (HV.out w2).mono ?_
        rintro e w3 ⟨rfl, hb3⟩
        have hb1 := bt HB2.out hb3
        have hk := (hb1.block _ (blk_lt HK0.out)).trans HK0.out
        have HB3 := Lib.hid (bt HB0.out hb1)
        have c0 := blk_cell hk 0; have c1 := blk_cell hk 1
        have f0 := blk_free hk 0; have f1 := blk_free hk 1
        simp at c0 c1
        have HK := Lib.hid hk
        clear hb1 hk hb3
        go_wp2_with fail
        refine put2_ret (W := w3) HK.out (.string A) (.string B) rfl rfl rfl ?_
        exact ⟨by rw [HF.out]; rfl, put2_below HB3.out (Nat.le_refl _) _ _⟩

theorem Tryd.info35 : (Tryd.prog.info? 35).map (fun i => (i.zero, i.size, i.bytes)) = some (some (.agg #[.string ⟨#[]⟩, .string ⟨#[]⟩]), 2, 32) := by kernel_rfl

/-- Where takeFields stands. -/
structure TF (s : ByteArray) (w : World) (T : ByteArray) (fs : List Fld) (v : Value) (wr : World) : Prop where
  row : wr.ownsRow w.heap.size 35 2 v fs.length (fldCells fs)
  bel : Below w.heap.size w wr
  len : T.size + fs.length ≤ s.size
  of : ∀ fs' r, FsOf T.data.toList fs' r → FsOf s.data.toList (fs ++ fs') r
theorem TF.on {s : ByteArray} {w : World} {T : ByteArray} {fs : List Fld} {v : Value} {wr w' : World} (h : TF s w T fs v wr) (hb : Below wr.heap.size wr w') : TF s w T fs v w' := ⟨own_below h.row hb, bt h.bel hb, h.len, h.of⟩
theorem fld_some_len {l : List UInt8} {f : Fld} (h : fldL l = some f) : 2 ≤ l.length := by
  rw [(fld_some h).2]; simp [colon]; omega
theorem cut_shorter {s : List UInt8} {f : Fld} (h : fldL (Lib.cut s crlf).1 = some f) : (Lib.cut s crlf).2.1.length + 1 ≤ s.length := by
  have h2 := fld_some_len h
  rcases cut_cases s crlf with ⟨a, b, e1, e2⟩ | e1
  · rw [e1, e2]; simp [crlf]; omega
  · rw [e1] at h2 ⊢; simp only at h2 ⊢; simp; omega
theorem TF.step {s : ByteArray} {w : World} {T : ByteArray} {fs : List Fld} {v v' : Value} {wr w' : World} {f : Fld} (h : TF s w T fs v wr) (hf : fldL (Lib.cut T.data.toList crlf).1 = some f) (hrow : w'.ownsRow w.heap.size 35 2 v' (fs.length + 1) (fldCells fs ++ [.string f.1, .string f.2])) (hb : Below w.heap.size w w') :
    TF s w (mkB (Lib.cut T.data.toList crlf).2.1) (fs ++ [f]) v' w' := by
  have hc := cut_shorter hf
  rw [data_len] at hc
  refine ⟨?_, hb, ?_, fun fs' r hk => ?_⟩
  · rw [fldCells_snoc]; simpa using hrow
  · have := h.len; rw [mkB_size]; simp; omega
  · have := h.of (f :: fs') r (.next hf (by rw [mkB_data] at hk; exact hk))
    simpa using this

set_option maxHeartbeats 4000000 in
theorem tfields_any (s : ByteArray) (hs : s.size ≤ 1000000000) (w : World) (hg : GV w) :
    Calls Tryd.prog 25 #[.string s] w fun e w' => ∃ fs r v, FsOf s.data.toList fs r ∧ e = .returned (.tuple #[v, .string (mkB r)]) ∧ w'.ownsRow w.heap.size 35 2 v fs.length (fldCells fs) ∧ Below w.heap.size w w' := by
  obtain ⟨i0, hi, hz0, hz1, hz2⟩ := info_parts Tryd.info35
  have HI := Lib.hid hi; have HZ0 := Lib.hid hz0; have HZ1 := Lib.hid hz1; have HZ2 := Lib.hid hz2
  clear hi hz0 hz1 hz2
  have HG := Lib.hid hg
  clear hg
  go_enter Tryd.func25, Tryd.ntmps25
  go_wp2_with fail
  go_loopw [0, 4] (fun t v wr => ∃ (T : ByteArray) (fs : List Fld), t = .string T ∧ Hid (TF s w T fs v wr)) (fun t _ _ => match t with | .string T => T.size | _ => 0)
  case atStart => exact ⟨s, [], rfl, ⟨World.ownsRow_nil _ _ _ _, Below.refl _ _, by simp, fun fs' r h => h⟩⟩
  case round =>
    obtain ⟨T, fs, rfl, HT⟩ := hrel
    obtain ⟨A, cap, rfl, _⟩ := Rd.own HT.out.row
    have hTs := HT.out.len
    have HC := Lib.hid (cutc_any T ⟨#[13, 10]⟩ wr (by omega) (HG.out.on HT.out.bel).toGB)
    change Hid (Calls Tryd.prog 23 _ wr fun e w' => e = .returned (cutV T.data.toList crlf) ∧ _) at HC
    unfold cutV at HC
    have hcl := (cut_len T.data.toList crlf).1
    rw [data_len] at hcl
    have HFO := Lib.hid (fun w hg => fldof_any (mkB (Lib.cut T.data.toList crlf).1) (by rw [mkB_size]; omega) w hg)
    simp only [mkB_data] at HFO
    cases hf : fldL (Lib.cut T.data.toList crlf).1 with
    | none =>
      have HOF := Lib.hid (HT.out.of [] T.data.toList (.stop hf))
      rw [hf] at HFO
      unfold fldV at HFO
      simp only at HFO
      clear hf
      generalize mkB (Lib.cut T.data.toList crlf).1 = X at *
      generalize mkB (Lib.cut T.data.toList crlf).2.1 = Y at *
      generalize (Lib.cut T.data.toList crlf).2.2 = b at *
      go_wp2_with fail
      refine HC.out.mono ?_
      rintro e w1 ⟨rfl, hb1⟩
      have HT1 := Lib.hid (HT.out.on hb1)
      clear hb1
      go_wp2_with fail
      refine (HFO.out w1 (HG.out.on HT1.out.bel)).mono ?_
      rintro e w2 ⟨rfl, hb2⟩
      have HT2 := Lib.hid (HT1.out.on hb2)
      clear hb2
      go_wp2_with fail
      go_ret2
      refine ⟨fs, T.data.toList, _, ?_, rfl, ?_⟩
      · have := HOF.out; rwa [List.append_nil] at this
      · have := (HT2.out.on ((Below.refl _ w2).alloc (Nat.le_refl _) (.cells #[.string ⟨#[]⟩, .string ⟨#[]⟩] 35)))
        exact ⟨this.row, this.bel⟩
    | some f =>
      have HST := Lib.hid (fun (v' : Value) (w' : World) hrow hb => HT.out.step (v' := v') (w' := w') hf hrow hb)
      have hsh := cut_shorter hf
      rw [data_len] at hsh
      have hys : (mkB (Lib.cut T.data.toList crlf).2.1).size < T.size := by rw [mkB_size]; omega
      rw [hf] at HFO
      unfold fldV at HFO
      simp only at HFO
      clear hf hsh
      obtain ⟨f1, f2⟩ := f
      simp only at HFO HST
      generalize mkB (Lib.cut T.data.toList crlf).1 = X at *
      generalize mkB (Lib.cut T.data.toList crlf).2.1 = Y at *
      generalize (Lib.cut T.data.toList crlf).2.2 = b at *
      go_wp2_with fail
      refine HC.out.mono ?_
      rintro e w1 ⟨rfl, hb1⟩
      have HT1 := Lib.hid (HT.out.on hb1)
      clear hb1
      go_wp2_with fail
      refine (HFO.out w1 (HG.out.on HT1.out.bel)).mono ?_
      rintro e w2 ⟨rfl, hb2⟩
      have HT2 := Lib.hid (HT1.out.on hb2)
      have HT3 := Lib.hid ((HT2.out.on ((Below.refl _ w2).alloc (Nat.le_refl _) (.cells #[.string f1, .string f2] 35))).on ((Below.refl _ _).alloc (Nat.le_refl _) (.cells #[.string f1, .string f2] 35)))
      clear hb2
      go_wp2_with (first | (at_builtin; refine wpList_append_own _ rfl _ _ 22 rfl w.heap.size 35 i0 (.agg #[.string ⟨#[]⟩, .string ⟨#[]⟩]) 2 32 Tryd.underlying22 HI.out HZ0.out HZ1.out HZ2.out rfl (by decide) _ _ _ rfl HT3.out.row ⟨w2.heap.size + 1, 0, none⟩ 1 1 [.string f1, .string f2] rfl rfl ?c1 ?c2 ?c3 ?c4 ?c5 ?_))
      case c1 => 
        have := World.news_of_block (heap_alloc_new (w2.alloc (.cells #[.string f1, .string f2] 35)) (.cells #[.string f1, .string f2] 35))
        simpa using this
      case c2 => intro u hu; simp at hu; rcases hu with rfl | rfl <;> rfl
      case c3 => unfold maxLen; omega
      case c4 => omega
      case c5 => exact HT3.out.bel.size
      intro v' w3 hown' hgrow _
      have HN := Lib.hid (HST.out v' w3 hown' (HT3.out.bel.grown hgrow HT3.out.bel.size (fun k hk => (HT3.out.row.lt k hk).1)))
      clear hown' hgrow
      go_wp2_with fail
      go_roundw
      case rel => exact ⟨Y, fs ++ [(f1, f2)], rfl, HN⟩
      case measure => exact hys

end Go.Proofs.YtkbigfjaaiobfaaDoor
