/- The contract of answer.Encode. -/
import Derived.Test.YtkbigfjaaiobfaaDoorAnsWord
import Derived.Test.YtkbigfjaaiobfaaDoorBld
namespace Go.Proofs.YtkbigfjaaiobfaaDoor
open Go.RowKit Pl Go.Shelf

theorem own_below {w w' : World} {B : Nat} {e : TypeId} {k n : Nat} {v : Value} {xs : List Value} (h : w.ownsRow B e k v n xs) (hb : Below w.heap.size w w') : w'.ownsRow B e k v n xs := by
  refine ⟨h.1, ?_⟩
  rcases h.2 with hn | ⟨g, cap, cur, hv, hg, hh, r⟩
  · exact .inl hn
  · exact .inr ⟨g, cap, cur, hv, hg, (hb.block g (blk_lt hh)).trans hh, r⟩
theorem bld_below {B b : Nat} {bs : List Value} {w w' : World} (h : Lib.IsBuilder 48 5 B b bs w) (hb : Below w.heap.size w w') : Lib.IsBuilder 48 5 B b bs w' := by
  rcases h with ⟨h1, v, h2, h3, h4⟩ | ⟨h1, v, h2, h3, h4⟩
  · exact .inl ⟨h1, v, (hb.block b (blk_lt h2)).trans h2, own_below h3 hb, h4⟩
  · exact .inr ⟨h1, v, (hb.block b (blk_lt h2)).trans h2, own_below h3 hb, h4⟩

/-- Where Encode stands: its own copy of the response, and the builder behind it. -/
structure ES (w : World) (st : Int) (F : Value) (body : ByteArray) (cl : Bool) (l : List UInt8) (wr : World) : Prop where
  bld : Lib.IsBuilder 48 5 (w.heap.size + 1) (w.heap.size + 1) (Lib.byteCells l) wr
  box : wr.heap[w.heap.size]? = some (.cells #[.int .i64 st, F, .string body, .bool cl] 24 (0, 0))
  bel : Below w.heap.size w wr
theorem ES.big {w wr : World} {st : Int} {F : Value} {body : ByteArray} {cl : Bool} {l : List UInt8} (h : ES w st F body cl l wr) : w.heap.size + 1 ≤ wr.heap.size := blk_lt h.box
theorem ES.on {w wr wr' : World} {st : Int} {F : Value} {body : ByteArray} {cl : Bool} {l : List UInt8} (h : ES w st F body cl l wr) (hb : Below wr.heap.size wr wr') : ES w st F body cl l wr' :=
  ⟨bld_below h.bld hb, (hb.block _ h.big).trans h.box, bt h.bel hb⟩
theorem ES.put {w wr wr' : World} {st : Int} {F : Value} {body : ByteArray} {cl : Bool} {l l' : List UInt8} (h : ES w st F body cl l wr) (hb : Below (w.heap.size + 1) wr wr') (k : Lib.IsBuilder 48 5 (w.heap.size + 1) (w.heap.size + 1) (Lib.byteCells l') wr') : ES w st F body cl l' wr' :=
  ⟨k, (hb.block _ (Nat.lt_succ_self _)).trans h.box, h.bel.trans (hb.mono (Nat.le_succ _))⟩
theorem ES.start (w : World) (st : Int) (F : Value) (body : ByteArray) (cl : Bool) : ES w st F body cl [] ((w.alloc (.cells #[.int .i64 st, F, .string body, .bool cl] 24)).alloc (.cells #[.pointer none, .slice none 0 0] 48)) := by
  have h := Lib.fresh_isBuilder 48 5 (w.alloc (.cells #[.int .i64 st, F, .string body, .bool cl] 24))
  have hs : (w.alloc (.cells #[.int .i64 st, F, .string body, .bool cl] 24)).heap.size = w.heap.size + 1 := by simp
  rw [hs] at h
  refine ⟨h, ?_, ((Below.refl _ w).alloc (Nat.le_refl _) _).alloc (by rw [hs]; omega) _⟩
  exact (Below.heap_alloc _ _ _ (by rw [hs]; omega)).trans (heap_alloc_new w _)

theorem ES.c0 {w wr : World} {st : Int} {F : Value} {body : ByteArray} {cl : Bool} {l : List UInt8} (h : ES w st F body cl l wr) : wr.cell? ⟨w.heap.size, 0, none⟩ = some (.int .i64 st) := blk_cell h.box 0
theorem ES.c1 {w wr : World} {st : Int} {F : Value} {body : ByteArray} {cl : Bool} {l : List UInt8} (h : ES w st F body cl l wr) : wr.cell? ⟨w.heap.size, 1, none⟩ = some F := blk_cell h.box 1
theorem ES.c2 {w wr : World} {st : Int} {F : Value} {body : ByteArray} {cl : Bool} {l : List UInt8} (h : ES w st F body cl l wr) : wr.cell? ⟨w.heap.size, 2, none⟩ = some (.string body) := blk_cell h.box 2
theorem ES.c3 {w wr : World} {st : Int} {F : Value} {body : ByteArray} {cl : Bool} {l : List UInt8} (h : ES w st F body cl l wr) : wr.cell? ⟨w.heap.size, 3, none⟩ = some (.bool cl) := blk_cell h.box 3

theorem two_size : (⟨#[13, 10]⟩ : ByteArray).size = 2 := rfl
theorem app_data (a b : ByteArray) : (a ++ b).data.toList = a.data.toList ++ b.data.toList := by simp

theorem flat_snoc (fs : List Fld) (k : Nat) (h : k < fs.length) : (fs.take (k + 1)).flatMap fldB = (fs.take k).flatMap fldB ++ fldB fs[k] := by
  rw [List.take_add_one, List.getElem?_eq_getElem h, List.flatMap_append]
  simp only [Option.toList_some, List.flatMap_cons, List.flatMap_nil, List.append_nil]

def encTo (st : Int) (fs : List Fld) (k : Nat) : List UInt8 := firstL st ++ (crlf ++ (fs.take k).flatMap fldB)
theorem encTo_zero (st : Int) (fs : List Fld) : encTo st fs 0 = [] ++ (mkB (firstL st) ++ ⟨#[13, 10]⟩).data.toList := by simp [encTo, crlf, mkB_data]
theorem encTo_snoc (st : Int) (fs : List Fld) (k : Nat) (h : k < fs.length) : encTo st fs (k + 1) = encTo st fs k ++ (fs[k].1 ++ ⟨#[58, 32]⟩ ++ fs[k].2 ++ ⟨#[13, 10]⟩).data.toList := by
  simp only [encTo, flat_snoc fs k h, app_data]
  simp [fldB, colon, crlf]
theorem encTo_len (st : Int) (fs : List Fld) (k : Nat) : (encTo st fs k).length ≤ (encTo st fs fs.length).length := by
  simp only [encTo, List.length_append, List.take_length]
  have : ((fs.take k).flatMap fldB).length ≤ (fs.flatMap fldB).length := by
    conv => rhs; rw [← List.take_append_drop k fs, List.flatMap_append, List.length_append]
    omega
  omega
theorem encTo_all (r : Rsp) : encL r = encTo r.st r.fs r.fs.length ++ tailL r := by simp [encL, encTo]
theorem encL_ge (r : Rsp) : (encTo r.st r.fs r.fs.length).length + r.body.size + 20 ≤ (encL r).length := by
  rw [encTo_all, List.length_append]
  simp only [tailL, List.length_append, data_len]
  have : lengthIs.length = 16 := rfl
  have : crlf.length = 2 := rfl
  omega

def lenB : ByteArray := ⟨#[99, 111, 110, 116, 101, 110, 116, 45, 108, 101, 110, 103, 116, 104, 58, 32]⟩
def closeB : ByteArray := ⟨#[99, 111, 110, 110, 101, 99, 116, 105, 111, 110, 58, 32, 99, 108, 111, 115, 101, 13, 10]⟩
theorem tail_open (l : List UInt8) (st : Int) (fs : List Fld) (body : ByteArray) : l ++ tailL ⟨st, fs, body, false⟩ = (l ++ (lenB ++ mkB (Lib.itoa body.size) ++ ⟨#[13, 10]⟩ ++ ⟨#[13, 10]⟩).data.toList) ++ body.data.toList := by
  simp only [tailL, app_data, mkB_data]
  simp [lengthIs, lenB, crlf]
theorem tail_shut (l : List UInt8) (st : Int) (fs : List Fld) (body : ByteArray) : l ++ tailL ⟨st, fs, body, true⟩ = ((l ++ closeB.data.toList) ++ (lenB ++ mkB (Lib.itoa body.size) ++ ⟨#[13, 10]⟩ ++ ⟨#[13, 10]⟩).data.toList) ++ body.data.toList := by
  simp only [tailL, app_data, mkB_data]
  simp [lengthIs, closingL, closeB, lenB, crlf]

set_option maxRecDepth 100000 in
set_option maxHeartbeats 4000000 in
theorem enc_any (r : Rsp) (A : Option Addr) (c : Nat) (w : World) (h0 : -9223372036854775808 ≤ r.st) (h1 : r.st ≤ 9223372036854775807) (hr : Rd w w.heap.size 2 A r.fs.length (fldCells r.fs)) (hl : (encL r).length ≤ 1000000) (hg : GB w) :
    Calls Tryd.prog 11 #[.agg #[.int .i64 r.st, .slice A r.fs.length c, .string r.body, .bool r.cl]] w fun e w' => e = .returned (.string (mkB (encL r))) ∧ Below w.heap.size w w' := by
  have hge := encL_ge r
  have HA : Hid (encL r = _) := encTo_all r
  obtain ⟨st, fs, body, cl⟩ := r
  simp only at h0 h1 hr hge hl HA ⊢
  have HS := Lib.hid (ES.start w st (.slice A fs.length c) body cl)
  have hx1 : (mkB (firstL st) ++ ⟨#[13, 10]⟩ : ByteArray).size ≤ 1000000 := by
    have := encTo_len st fs 0
    rw [encTo_zero] at this
    simp only [List.nil_append, data_len] at this
    omega
  have k1 := add_str (mkB (firstL st)) ⟨#[13, 10]⟩ (by rw [app_size] at hx1; omega)
  have HZ := Lib.hid (encTo_zero st fs)
  have HG0 := Lib.hid (hg.on HS.out.bel)
  have HF := Lib.hid (first_any st h0 h1 _ HG0.out)
  have HR := Lib.hid hr
  have HG := Lib.hid hg
  have HL := Lib.hid hl
  have HGE := Lib.hid hge
  have hbs : body.size ≤ 1000000 := by omega
  have HFL : Hid (fs.length ≤ 1000000) := by
    have : fs.length ≤ (fs.flatMap fldB).length := by
      clear HA HS k1 HZ HG0 HF HR HG HL HGE hr hge hl
      induction fs with
      | nil => simp
      | cons f fs ih =>
        have : 1 ≤ (fldB f).length := by simp [fldB, crlf]; omega
        simp only [List.flatMap_cons, List.length_append, List.length_cons]
        omega
    have h3 : (fs.flatMap fldB).length ≤ (encTo st fs fs.length).length := by
      simp only [encTo, List.take_length, List.length_append]; omega
    show fs.length ≤ 1000000
    omega
  clear hr hg hl hge
  generalize encL ⟨st, fs, body, cl⟩ = EE at *
  generalize (mkB (firstL st) ++ ⟨#[13, 10]⟩ : ByteArray) = x1 at *
  generalize mkB (firstL st) = x0 at *
  go_enter Tryd.func11, Tryd.ntmps11
  go_wp2_with fail
  generalize ((w.alloc (.cells #[.int .i64 st, .slice A fs.length c, .string body, .bool cl] 24)).alloc (.cells #[.pointer none, .slice none 0 0] 48)) = W0 at *
  refine HF.out.mono ?_
  rintro e w1 ⟨rfl, hb1⟩
  have HS1 := Lib.hid (HS.out.on hb1)
  clear hb1
  go_wp2_with fail
  refine (put_any _ _ [] x1 w1 HS1.out.bld (by simp; omega) HS1.out.big).mono ?_
  rintro e w2 ⟨rfl, k2, hb2⟩
  have HS2 := Lib.hid (HS1.out.put hb2 k2)
  rw [← HZ.out] at HS2
  have q1 := HS2.out.c1
  clear hb2 k2 k1 HZ HF HS1 HS HG0 hx1
  go_wp2_with fail
  clear q1
  go_loopw [14] (fun i wr => ∃ k : Nat, k ≤ fs.length ∧ i = .int .i64 k ∧ Hid (ES w st (.slice A fs.length c) body cl (encTo st fs k) wr)) (fun i _ => fs.length - (intOf i).toNat)
  case atStart => exact ⟨0, by omega, rfl, HS2⟩
  case round =>
    clear HS2
    obtain ⟨k, hk, rfl, HE⟩ := hrel
    have hfl := HFL.out
    by_cases hlt : k < fs.length
    · obtain ⟨a, rfl, hab, hc⟩ := (HR.out.below HE.out.bel (Nat.le_refl _)).2 (by omega)
      have hc0 : wr.cell? (a.add (k * 2)) = some (.string (fs[k]).1) := hc _ _ (fldCells_at fs k hlt).1
      have hc1 : wr.cell? ⟨(a.add (k * 2)).block, (a.add (k * 2)).off + 1, none⟩ = some (.string (fs[k]).2) := by rw [add_next]; exact hc _ _ (fldCells_at fs k hlt).2
      have hsn := encTo_snoc st fs k hlt
      have hsz : (encTo st fs k).length + ((fs[k]).1 ++ ⟨#[58, 32]⟩ ++ (fs[k]).2 ++ ⟨#[13, 10]⟩).size ≤ 1000000 := by
        have h5 := encTo_len st fs (k + 1)
        have h6 := HL.out; have h7 := HGE.out
        rw [hsn, List.length_append, data_len] at h5
        omega
      have HSN := Lib.hid hsn
      clear hc hsn
      generalize (fs[k]).1 = f1 at *
      generalize (fs[k]).2 = f2 at *
      have k1 := add_str f1 ⟨#[58, 32]⟩ (by rw [app_size, app_size, app_size] at hsz; omega)
      have k2 := add_str (f1 ++ ⟨#[58, 32]⟩) f2 (by rw [app_size, app_size] at hsz; omega)
      have k3 := add_str (f1 ++ ⟨#[58, 32]⟩ ++ f2) ⟨#[13, 10]⟩ (by rw [app_size] at hsz; omega)
      generalize (f1 ++ ⟨#[58, 32]⟩ ++ f2 ++ ⟨#[13, 10]⟩ : ByteArray) = y3 at *
      generalize (f1 ++ ⟨#[58, 32]⟩ ++ f2 : ByteArray) = y2 at *
      generalize (f1 ++ ⟨#[58, 32]⟩ : ByteArray) = y1 at *
      have HE1 := Lib.hid (HE.out.on ((Below.refl _ wr).alloc (Nat.le_refl _) (.cells #[.string f1, .string f2] 35)))
      have HSZ := Lib.hid hsz
      clear hsz
      go_wp2_with fail
      refine (put_any _ _ (encTo st fs k) y3 _ HE1.out.bld (by have := HSZ.out; omega) HE1.out.big).mono ?_
      rintro e w3 ⟨rfl, h3, hb3⟩
      have HE3 := Lib.hid (HE1.out.put hb3 h3)
      rw [← HSN.out] at HE3
      clear h3 hb3 k1 k2 k3 hc0 hc1 HE1 HSZ HSN
      go_wp2_with fail
      go_roundw
      case rel => exact ⟨k + 1, by omega, by go_num, HE3⟩
      case measure => simp [intOf]; omega
    · obtain rfl : k = fs.length := by omega
      have q3 := HE.out.c3
      have hsl : (encTo st fs fs.length).length + body.size ≤ 1000000 := by
        have h6 := HL.out; have h7 := HGE.out
        omega
      generalize encTo st fs fs.length = l0 at *
      have HT0 := Lib.hid (tail_open l0 st fs body)
      have HT1 := Lib.hid (tail_shut l0 st fs body)
      have hI : (mkB (Lib.itoa body.size)).size ≤ 21 := by rw [mkB_size]; exact Lib.itoa_length_le _ (by omega) (by omega)
      have HIT := Lib.hid (fun w hg => itoa_any body.size (by omega) (by omega) w hg)
      generalize mkB (Lib.itoa body.size) = z0 at *
      have hlb : lenB.size = 16 := rfl
      have k1 := add_str lenB z0 (by omega)
      have k2 := add_str (lenB ++ z0) ⟨#[13, 10]⟩ (by rw [app_size, two_size]; omega)
      have k3 := add_str (lenB ++ z0 ++ ⟨#[13, 10]⟩) ⟨#[13, 10]⟩ (by rw [app_size, app_size, two_size]; omega)
      have hz3 : (lenB ++ z0 ++ ⟨#[13, 10]⟩ ++ ⟨#[13, 10]⟩).size ≤ 100 := by rw [app_size, app_size, app_size, two_size]; omega
      generalize (lenB ++ z0 ++ ⟨#[13, 10]⟩ ++ ⟨#[13, 10]⟩ : ByteArray) = z3 at *
      generalize (lenB ++ z0 ++ ⟨#[13, 10]⟩ : ByteArray) = z2 at *
      generalize (lenB ++ z0 : ByteArray) = z1 at *
      unfold lenB at k1
      have hcs : closeB.size = 19 := rfl
      have put2 : ∀ (l : List UInt8) (x : ByteArray) (wx : World), ES w st (.slice A fs.length c) body cl l wx → l.length + x.size ≤ 1000000000 → ∀ l', l ++ x.data.toList = l' → Calls Tryd.prog 19 #[.pointer (some ⟨w.heap.size + 1, 0, none⟩), .string x] wx fun e w' => e = .returned (.tuple #[.int .i64 x.size, .nilIface]) ∧ ES w st (.slice A fs.length c) body cl l' w' := by
        intro l x wx he hlen l' hl'
        subst hl'
        exact (put_any _ _ l x wx he.bld hlen he.big).mono fun _ _ ⟨e1, e2, e3⟩ => ⟨e1, he.put e3 e2⟩
      have HP := Lib.hid put2
      clear put2
      have tl : ∀ l1 : List UInt8, Hid (l1.length ≤ l0.length + 19) → Hid (EE = (l1 ++ z3.data.toList) ++ body.data.toList) → ∃ l2 l3 : List UInt8, Hid (l1 ++ z3.data.toList = l2) ∧ Hid (l2 ++ body.data.toList = l3) ∧ Hid (l1.length + z3.size ≤ 1000000000) ∧ Hid (l2.length + body.size ≤ 1000000000) ∧ Hid (EE = l3) := by
        intro l1 h1 h2
        refine ⟨_, _, rfl, rfl, ?_, ?_, h2⟩
        · have := h1.out; show _ ≤ _; omega
        · have := h1.out; show _ ≤ _; rw [List.length_append]; simp only [data_len]; omega
      cases cl with
      | true =>
        obtain ⟨l1, hl1⟩ : ∃ l1, l0 ++ closeB.data.toList = l1 := ⟨_, rfl⟩
        have HL1 : Hid (l1.length ≤ l0.length + 19) := by show _ ≤ _; rw [← hl1, List.length_append]; simp only [data_len]; omega
        have HCP := Lib.hid (HP.out l0 closeB wr HE.out (by omega) l1 hl1)
        have HFIN : Hid (EE = _) := HA.out.trans HT1.out
        rw [hl1] at HFIN
        obtain ⟨l2, l3, G1, G2, G3, G4, G5⟩ := tl l1 HL1 HFIN
        clear HA HT0 HT1 HFIN hl1 tl
        unfold closeB at HCP
        go_wp2_with fail
        refine HCP.out.mono ?_
        rintro e w3 ⟨rfl, h3⟩
        have HE3 := Lib.hid h3
        have q2 := HE3.out.c2
        clear h3 HCP q3
        go_wp2_with fail
        refine (HIT.out w3 (HG.out.on HE3.out.bel)).mono ?_
        rintro e w4 ⟨rfl, hb4⟩
        have HE4 := Lib.hid (HE3.out.on hb4)
        clear hb4 q2
        go_wp2_with fail
        refine (HP.out l1 z3 w4 HE4.out G3.out l2 G1.out).mono ?_
        rintro e w5 ⟨rfl, h5⟩
        have HE5 := Lib.hid h5
        have q2 := HE5.out.c2
        clear h5
        go_wp2_with fail
        refine (HP.out l2 body w5 HE5.out G4.out l3 G2.out).mono ?_
        rintro e w6 ⟨rfl, h6⟩
        have HE6 := Lib.hid h6
        clear h6 q2
        go_wp2_with fail
        refine (str_any _ _ l3 w6 HE6.out.bld HE6.out.big).mono ?_
        rintro e w7 ⟨rfl, hb7⟩
        go_wp2_with fail
        go_ret
        exact ⟨by rw [G5.out]; rfl, HE6.out.bel.trans (hb7.mono (Nat.le_succ _))⟩
      | false =>
        have HFIN : Hid (EE = _) := HA.out.trans HT0.out
        obtain ⟨l2, l3, G1, G2, G3, G4, G5⟩ := tl l0 (Nat.le_add_right _ _) HFIN
        have q2 := HE.out.c2
        clear HA HT0 HT1 HFIN tl
        go_wp2_with fail
        refine (HIT.out wr (HG.out.on HE.out.bel)).mono ?_
        rintro e w4 ⟨rfl, hb4⟩
        have HE4 := Lib.hid (HE.out.on hb4)
        clear hb4 q2 q3
        go_wp2_with fail
        refine (HP.out l0 z3 w4 HE4.out G3.out l2 G1.out).mono ?_
        rintro e w5 ⟨rfl, h5⟩
        have HE5 := Lib.hid h5
        have q2 := HE5.out.c2
        clear h5
        go_wp2_with fail
        refine (HP.out l2 body w5 HE5.out G4.out l3 G2.out).mono ?_
        rintro e w6 ⟨rfl, h6⟩
        have HE6 := Lib.hid h6
        clear h6 q2
        go_wp2_with fail
        refine (str_any _ _ l3 w6 HE6.out.bld HE6.out.big).mono ?_
        rintro e w7 ⟨rfl, hb7⟩
        go_wp2_with fail
        go_ret
        exact ⟨by rw [G5.out]; rfl, HE6.out.bel.trans (hb7.mono (Nat.le_succ _))⟩

end Go.Proofs.YtkbigfjaaiobfaaDoor
