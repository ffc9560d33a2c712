/- The contract of the laws' own look ahead. -/
import Derived.Test.YtmncchgifgjhgaaDoorCy
import Derived.Laws.EntriesVeiled
namespace Go.Proofs.YtmncchgifgjhgaaDoor
open Go.RowKit Go.Shelf

def noP : Nat → Prop := fun _ => False
def anyS : World → Prop := fun _ => True
theorem of_any (P : Nat → Prop) : Of P anyS := fun _ _ h _ => h
theorem hd_any {P : Nat → Prop} {b : Bool} {cv : Value} {o : Out} {w0 : World} {hv : Value} (h : Hd P anyS (sel b anyS anyS) cv o w0 hv) : Hd P anyS anyS cv o w0 hv := by
  obtain ⟨k, caps, e, hen, hh⟩ := h
  exact ⟨k, caps, e, hen, fun w hw hs => (hh w hw hs).mono fun _ _ ⟨h1, h2, _⟩ => ⟨h1, h2, trivial⟩⟩

set_option maxRecDepth 100000 in
set_option maxHeartbeats 2000000 in
theorem fit1_hd (c : Cl) (w0 : World) : Hd noP anyS anyS c.v (.ans 200 [] ⟨#[]⟩ false) w0 (.func (.func 30) #[] #[]) := by
  refine ⟨30, #[], rfl, enters_of Tryd.func30 (by kernel_rfl) rfl, fun w hw hs => ?_⟩
  show Calls Tryd.prog 30 #[.agg #[.string c.m, .string c.tg, .slice c.A c.fs.length c.fc, .string c.bd, .bool c.cc, .int .i64 c.cn, .int .i64 c.sq, .int .i64 c.vs, .string c.hn, c.pv, .slice c.B c.al.length c.ac, .bool c.fd, .string c.tk]] w _
  obtain ⟨m, tg, A, fs, fc, bd, cc, cn, sq, vs, hn, pv, B, al, ac, fd, tk⟩ := c
  simp only
  generalize fs.length = n1
  generalize al.length = n2
  have hb1 := (Below.refl w.heap.size w).alloc (Nat.le_refl _) (.cells #[.string m, .string tg, .slice A n1 fc, .string bd, .bool cc, .int .i64 cn, .int .i64 sq, .int .i64 vs, .string hn, pv, .slice B n2 ac, .bool fd, .string tk] 30)
  have hk2 := heap_alloc_new (w.alloc (.cells #[.string m, .string tg, .slice A n1 fc, .string bd, .bool cc, .int .i64 cn, .int .i64 sq, .int .i64 vs, .string hn, pv, .slice B n2 ac, .bool fd, .string tk] 30)) (.cells #[.int .i64 0, .slice none 0 0, .string ⟨#[]⟩, .bool false] 32)
  have hb2 := hb1.alloc hb1.size (.cells #[.int .i64 0, .slice none 0 0, .string ⟨#[]⟩, .bool false] 32)
  have hsz : (w.alloc (.cells #[.string m, .string tg, .slice A n1 fc, .string bd, .bool cc, .int .i64 cn, .int .i64 sq, .int .i64 vs, .string hn, pv, .slice B n2 ac, .bool fd, .string tk] 30)).heap.size = w.heap.size + 1 := by simp
  rw [hsz] at hk2
  have HK := Lib.hid hk2; have HB := Lib.hid hb2
  have r0 := blk_cell hk2 0; have r1 := blk_cell hk2 1; have r2 := blk_cell hk2 2; have r3 := blk_cell hk2 3
  have z0 := blk_free hk2 0; have z1 := blk_free hk2 1; have z2 := blk_free hk2 2; have z3 := blk_free hk2 3
  simp only [List.getElem?_toArray, List.getElem?_cons_zero, List.getElem?_cons_succ] at r0 r1 r2 r3
  clear hk2 hb2 hb1 hsz
  generalize hw2 : (w.alloc (.cells #[.string m, .string tg, .slice A n1 fc, .string bd, .bool cc, .int .i64 cn, .int .i64 sq, .int .i64 vs, .string hn, pv, .slice B n2 ac, .bool fd, .string tk] 30)).alloc (.cells #[.int .i64 0, .slice none 0 0, .string ⟨#[]⟩, .bool false] 32) = w2 at *
  go_enter Tryd.func30, Tryd.ntmps30
  go_wp2_with fail
  refine put4_ret (W := w2) Tryd.results30 HK.out (.int .i64 200) (.slice none 0 0) (.string ⟨#[]⟩) (.bool false) rfl rfl ?_
  exact ⟨⟨none, 0, rfl, Row.nil _ _ _, by simp, fun a e => Nat.zero_le _⟩, (Frm.of HB.out).put4 _ _ _ _ _ (by omega), trivial⟩

def fitC : Cl := ⟨⟨#[72, 69, 65, 68]⟩, ⟨#[]⟩, none, [], 0, ⟨#[]⟩, false, 3, 4, 5, ⟨#[]⟩, .slice none 0 0, none, [], 0, false, ⟨#[]⟩⟩
theorem it3 : Lib.itoa 3 = [51] := (Lib.itoa_nonneg 3).trans (Lib.decDigits_one (by decide))
theorem it4 : Lib.itoa 4 = [52] := (Lib.itoa_nonneg 4).trans (Lib.decDigits_one (by decide))
theorem it5 : Lib.itoa 5 = [53] := (Lib.itoa_nonneg 5).trans (Lib.decDigits_one (by decide))
theorem fit_cells : fldCells (markL 3 4 5 ++ []) = [.string xidB, .string ⟨#[51, 45, 52]⟩, .string xveB, .string ⟨#[53]⟩] := by
  simp only [markL, idB, it3, it4, it5]
  rfl
theorem fit_out (o : Out) : markO fitC (safeO (stdO fitC o).1) = .ans 501 (markL 3 4 5 ++ []) (plB 501) false := by
  have h : ¬ (fitC.m = getB ∨ fitC.m = putB ∨ fitC.m = postB ∨ fitC.m = delB) := by decide
  simp only [stdO, knownO, if_neg h]
  rfl
theorem std_rd (w : World) : Rd (w.alloc (.cells #[.func (.func 26) #[] #[], .func (.func 25) #[] #[], .func (.func 21) #[] #[], .func (.func 22) #[] #[], .func (.func 23) #[] #[], .func (.func 24) #[] #[]] 47)) (w.alloc (.cells #[.func (.func 26) #[] #[], .func (.func 25) #[] #[], .func (.func 21) #[] #[], .func (.func 22) #[] #[], .func (.func 23) #[] #[], .func (.func 24) #[] #[]] 47)).heap.size 1 (some ⟨w.heap.size, 0, none⟩) stdL.length (lvs stdL) :=
  ⟨rfl, fun _ => ⟨_, rfl, by simp, fun j u hu => by
    rw [add_zero_own]
    show World.cell? _ ⟨w.heap.size, j, none⟩ = _
    rw [blk_cell (heap_alloc_new w _) j]
    simpa [lvs, stdL] using hu⟩⟩

set_option maxRecDepth 100000 in
set_option maxHeartbeats 4000000 in
theorem fit_any (w : World) (hg : GB w) : Calls Tryd.prog 9 #[] w fun e w' => e = .returned (.bool true) ∧ Below w.heap.size w w' := by
  have hb1 := (Below.refl w.heap.size w).alloc (Nat.le_refl _) (.cells #[.func (.func 26) #[] #[], .func (.func 25) #[] #[], .func (.func 21) #[] #[], .func (.func 22) #[] #[], .func (.func 23) #[] #[], .func (.func 24) #[] #[]] 47)
  have HA := Lib.hid (all_any12 stdL (.func (.func 30) #[] #[]) ⟨_, _, rfl, enters_of Tryd.func30 (by kernel_rfl) rfl⟩ _ 6 _ (by decide) (std_rd w))
  have HB1 := Lib.hid hb1
  have HG := Lib.hid hg
  have HS := Lib.hid (standard_any w)
  clear hb1 hg
  change Hid (Calls Tryd.prog 11 #[_, .slice (some ⟨w.heap.size, 0, none⟩) 6 6] _ _) at HA
  go_enter Tryd.func9, Tryd.ntmps9
  go_wp2_with fail
  refine HS.out.mono ?_
  rintro e w1 ⟨rfl, rfl⟩
  go_wp2_with fail
  refine HA.out.mono ?_
  generalize (w.alloc (.cells #[.func (.func 26) #[] #[], .func (.func 25) #[] #[], .func (.func 21) #[] #[], .func (.func 22) #[] #[], .func (.func 23) #[] #[], .func (.func 24) #[] #[]] 47)) = w1 at *
  rintro e w2 ⟨rfl, ⟨v, hk, hf, hch⟩, hb2⟩
  have hg2 := (HG.out.on HB1.out).on hb2
  have hcok : fitC.ok noP w2 := ⟨fun h => absurd rfl h, fun h => absurd rfl h, by decide, by decide, (fun x hx => by cases hx), by decide, by decide, by unfold I64; decide, by unfold I64; decide, by unfold I64; decide⟩
  have hstd := hd_any (std_hd hcok hg2 (fun _ q => q.elim) (fun st l b cl e => by cases e; simp) (fit1_hd fitC w2) (fun _ q => q.elim) (fun _ q => q.elim) (of_any _) (of_any _) hch)
  have hall := all1_o hstd (fun _ q => q.elim) (of_any _) (of_any _) (blk_lt hk) (fun q => q) (blk_cell hk 0)
  rw [fit_out] at hall
  obtain ⟨_, _, he, _, hcall⟩ := hall
  cases he
  have HC := Lib.hid (hcall w2 (Frm.refl _ _) trivial)
  change Hid (Calls Tryd.prog 33 #[.agg #[.string ⟨#[72, 69, 65, 68]⟩, .string ⟨#[]⟩, .slice none 0 0, .string ⟨#[]⟩, .bool false, .int .i64 3, .int .i64 4, .int .i64 5, .string ⟨#[]⟩, .slice none 0 0, .slice none 0 0, .bool false, .string ⟨#[]⟩], .pointer (some ⟨w1.heap.size, 0, none⟩)] w2 _) at HC
  have hfe := fn_eq 33 #[.pointer (some ⟨w1.heap.size, 0, none⟩)]
  have HB2 := Lib.hid (bt HB1.out hb2)
  clear hcall hstd hcok hg2 hk hf hch hb2
  go_wp2_with fail
  refine HC.out.mono ?_
  rintro e w3 ⟨⟨A, n, rfl, hrow, _, _⟩, hf3, _⟩
  have hb3 := bt HB2.out (hf3.below (Nat.le_refl _) fun _ q => q.elim)
  obtain ⟨a, rfl, hal, _, hc⟩ := hrow (by simp [markL])
  rw [fit_cells] at hc
  have hb4 := (Below.refl w3.heap.size w3).alloc (Nat.le_refl _) (.cells #[.int .i64 501, .slice (some a) 2 n, .string (plB 501), .bool false] 32)
  have hk4 := heap_alloc_new w3 (.cells #[.int .i64 501, .slice (some a) 2 n, .string (plB 501), .bool false] 32)
  have x0 := blk_cell hk4 0; have x1 := blk_cell hk4 1; have x2 := blk_cell hk4 2; have x3 := blk_cell hk4 3
  simp only [List.getElem?_toArray, List.getElem?_cons_zero, List.getElem?_cons_succ] at x0 x1 x2 x3
  have y1 : (w3.alloc (.cells #[.int .i64 501, .slice (some a) 2 n, .string (plB 501), .bool false] 32)).cell? ⟨a.block, a.off + 1, none⟩ = some (.string ⟨#[51, 45, 52]⟩) :=
    (hb4.cell (p := ⟨a.block, a.off + 1, none⟩) hal).trans (by have := hc 1 _ rfl; rw [← add_next a 0] at this; exact this)
  have y3 : (w3.alloc (.cells #[.int .i64 501, .slice (some a) 2 n, .string (plB 501), .bool false] 32)).cell? ⟨a.block, a.off + 2 + 1, none⟩ = some (.string ⟨#[53]⟩) :=
    (hb4.cell (p := ⟨a.block, a.off + 2 + 1, none⟩) hal).trans (by have := hc 3 _ rfl; rw [← add_next a 2] at this; exact this)
  have HB4 := Lib.hid (bt hb3 hb4)
  have HW := Lib.hid (fun wx => word_any 200 wx)
  have HL := Lib.hid (fun wx => all_any [] ⟨#[97]⟩ none 0 wx ⟨rfl, fun h => absurd rfl h⟩ (by decide))
  have hlen : (markL 3 4 5 ++ []).length = 2 := rfl
  rw [hlen]
  clear hc hal hb3 hb4 hf3 hrow hk4 HC hfe
  generalize plB 501 = pb at *
  go_wp2_with fail
  generalize w3.alloc (.cells #[.int .i64 501, .slice (some a) 2 n, .string pb, .bool false] 32) = w4 at *
  refine (HW.out _).mono ?_
  rintro e w5 ⟨rfl, rfl⟩
  have hok : wordL 200 = [79, 75] := by decide
  rw [hok]
  have hokt : ((mkB [79, 75]).toList == [79, 75]) = true := by rw [eq_list, mkB_data]; simp
  go_wp2_with fail
  refine (HL.out _).mono ?_
  rintro e w6 ⟨v, rfl, hown, hb6⟩
  have HB6 := Lib.hid (bt HB4.out hb6)
  obtain ⟨B, k, rfl, _⟩ := Rd.own hown
  clear hown hb6 x0 x1 x2 x3 y1 y3
  go_wp2_with fail
  go_ret
  exact ⟨rfl, HB6.out⟩
end Go.Proofs.YtmncchgifgjhgaaDoor
