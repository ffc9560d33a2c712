/- The walk of the law HeadLengths. -/
import Derived.Test.YtihdjgjceadooaaDoorBits
import Derived.Test.YtihdjgjceadooaaDoorLenPlain
namespace Go.Proofs.YtihdjgjceadooaaDoor
open Go.RowKit Pl

def zero3 : ByteArray := ⟨#[48, 48, 48]⟩
theorem zero3_dig (m : Nat) (h : m < 4) : ∀ c ∈ (zero3.extract 0 m).data.toList, c = 48 := by
  have : ∀ m : Fin 4, ∀ c ∈ (zero3.extract 0 m.1).data.toList, c = 48 := by decide
  exact this ⟨m, h⟩
theorem zero3_size (m : Nat) : (zero3.extract 0 m).size ≤ 3 := by
  rw [Lib.size_eq, Lib.extract_data, List.length_take]
  have : zero3.data.toList.length = 3 := rfl
  simp only [List.drop_zero, this]; omega

/-- The line with the length. -/
def lineOf (m : Nat) (D : ByteArray) : ByteArray := lenP ++ zero3.extract 0 m ++ D
theorem lineOf_data (m : Nat) (D : ByteArray) : (lineOf m D).data.toList = lenP.data.toList ++ ((zero3.extract 0 m).data.toList ++ D.data.toList) := by
  rw [lineOf, app_data, app_data, List.append_assoc]
theorem lineOf_size (m : Nat) (D : ByteArray) (h : D.size ≤ 5) : (lineOf m D).size ≤ 1000000 := by
  rw [lineOf, app_size, app_size]
  have := zero3_size m
  have : lenP.size = 16 := rfl
  omega
theorem lineOf_facts (m n : Nat) (D : ByteArray) (hm : m < 4) (hn : n ≤ 65535) (hD : DInv n 0 D.data.toList) (hne : D.data.toList ≠ []) : digB ((zero3.extract 0 m).data.toList ++ D.data.toList) ∧ numB 10 ((zero3.extract 0 m).data.toList ++ D.data.toList) = some (n : Int) := by
  obtain ⟨h1, _, h3⟩ := dinv_end hD
  have hz := zero3_dig m hm
  have hd : digB ((zero3.extract 0 m).data.toList ++ D.data.toList) := by
    intro c hc
    rw [List.mem_append] at hc
    rcases hc with hc | hc
    · rw [hz c hc]; decide
    · exact h1 c hc
  have hv := dval_zeros _ D.data.toList hz
  refine ⟨hd, ?_⟩
  rw [numB_val _ (by simp [hne]) hd (by rw [hv, h3]; omega), hv, h3]

theorem parse_row (ls : List ByteArray) (w0 : World) (cs : Array Value) (n : Nat) (hcs : cs.toList = ls.map .string) (hl : ls.length = n) (hn : 2 ≤ n) (hn2 : n ≤ 1000) (hs : ∀ s ∈ ls, s.size ≤ 1000000) (h : Hd) (hp : parseF ls = h) :
    Calls Tryd.prog 11 #[.slice (some ⟨w0.heap.size, 0, none⟩) n n] (w0.alloc (.cells cs 9)) fun e w' => Parsed h (w0.alloc (.cells cs 9)) e w' := by
  subst hl; subst hp
  have hsz : cs.size = ls.length := by rw [← Array.length_toList, hcs, List.length_map]
  refine parse_any ls _ _ _ ?_ hn (Nat.le_refl _) (by unfold maxLen; omega) hs
  rw [← hcs]
  exact Rd.new w0 cs 9 _ hsz

set_option maxHeartbeats 4000000 in
theorem lengths_walk (n0 m0 : Int) (ch : Bool) (w : World) : Calls Tryd.prog 7 #[.int .i64 n0, .int .i64 m0, .bool ch] w fun e w' => e = .returned (.bool true) ∧ Below w.heap.size w w' := by
  obtain ⟨i0, hi, hz0, hz1, hz2⟩ := info_parts Tryd.info9
  have HI := Lib.hid hi; have HZ0 := Lib.hid hz0; have HZ1 := Lib.hid hz1; have HZ2 := Lib.hid hz2
  clear hi hz0 hz1 hz2
  go_enter Tryd.func7, Tryd.ntmps7
  go_wp2_with fail
  refine (fit_any _).mono ?_
  rintro e w1 ⟨rfl, hb1⟩
  go_wp2_with fail
  rw [i64_and65535, i64_and3]
  obtain ⟨n, hn⟩ : ∃ n : Nat, n0 % 65536 = (n : Int) := ⟨(n0 % 65536).toNat, by omega⟩
  obtain ⟨m, hm⟩ : ∃ m : Nat, m0 % 4 = (m : Int) := ⟨(m0 % 4).toNat, by omega⟩
  have hnb : n ≤ 65535 := by omega
  have hmb : m < 4 := by omega
  rw [hn, hm]
  clear hn hm
  go_loopw [7, 8] (fun d i wr => ∃ (k : Nat) (D : ByteArray), i = .int .i64 k ∧ d = .string D ∧ k ≤ n ∧ D.size ≤ 5 ∧ Hid (DInv n k D.data.toList) ∧ Below w.heap.size w wr) (fun d i _ => (intOf i).toNat + strNone d)
  case atStart => exact ⟨n, ⟨#[]⟩, rfl, rfl, by omega, by decide, dinv_start n hnb, hb1⟩
  case round =>
    obtain ⟨k, D, rfl, rfl, hk, hDk, hinv, hbr⟩ := hrel
    by_cases hstop : k = 0 ∧ D.data.toList ≠ []
    · obtain ⟨rfl, hne⟩ := hstop
      have he : D.toList.isEmpty = false := str_nonempty D hne
      obtain ⟨hdig, hnum⟩ := lineOf_facts m n D hmb hnb hinv.out hne
      have hls := lineOf_size m D hDk
      have hld := lineOf_data m D
      have hzz := zero3_size m
      have hP1 := Lib.hid (parse_lens (lineOf m D) _ hdig hld)
      have hP2 := Lib.hid (parse_len_big (lineOf m D) _ hdig hld n hnum)
      have hP3 := Lib.hid (parse_len_ok (lineOf m D) _ hdig hld n hnum)
      have HS3 : Hid (∀ s ∈ [putL, hostL, lineOf m D], s.size ≤ 1000000) := fun s hs => by
        simp at hs
        rcases hs with rfl | rfl | rfl
        · decide
        · decide
        · exact hls
      have HS4 : Hid (∀ s ∈ [putL, hostL, lineOf m D, chunkL], s.size ≤ 1000000) := fun s hs => by
        simp at hs
        rcases hs with rfl | rfl | rfl | rfl
        · decide
        · decide
        · exact hls
        · decide
      clear hdig hnum hls hld hne hinv
      unfold zero3 at hzz
      cases ch with
      | true =>
        go_wp2_with (at_builtin; refine wpList_append_own _ rfl _ _ 24 rfl wr.heap.size 9 i0 (.string ⟨#[]⟩) 1 16 Tryd.underlying24 HI.out HZ0.out HZ1.out HZ2.out rfl (by decide) _ 3 [.string putL, .string hostL, .string (lineOf m D)] rfl ((World.ownsRow_lit wr #[.string putL, .string hostL, .string (lineOf m D)] 3 (Nat.le_refl _) (by decide) rfl).alloc _) ⟨wr.heap.size + 1, 0, none⟩ 1 1 [.string chunkL] rfl rfl ?c1 ?c2 ?c3 ?c4 ?c5 ?_)
        case c1 =>
          have hx := cell_one_new (wr.alloc (.cells #[.string putL, .string hostL, .string (lineOf m D)] 9)) (.string chunkL) 9
          rw [show (wr.alloc (.cells #[.string putL, .string hostL, .string (lineOf m D)] 9)).heap.size = wr.heap.size + 1 from by simp] at hx
          exact hx
        case c2 => intro u hu; simp at hu; subst hu; rfl
        case c3 => decide
        case c4 => decide
        case c5 => simp; omega
        intro v' w3 hown hgr _
        obtain ⟨g, cg, rfl, hrd, hcc, hcm, hgb, hgl⟩ := own_rd hown (by decide)
        have hb3 : Below w.heap.size w w3 := (ba (ba hbr _) _).grown hgr (by have := hbr.size; simp; omega) (fun k hk => by simp [Value.ownBlock] at hk; have := hbr.size; omega)
        have hpa := parse_any [putL, hostL, lineOf m D, chunkL] _ cg w3 hrd (by simp) hcc hcm HS4.out
        rw [hP1.out] at hpa
        have HPA := Lib.hid hpa
        clear hpa hgr hrd hown
        go_wp2_with fail
        refine HPA.out.mono ?_
        rintro e w4 ⟨v, rfl, hov, hb4⟩
        obtain ⟨Av, cv, rfl, _⟩ := Rd.own hov
        clear hov
        simp only [hdVal, badH]
        have hfs := field_status (.string ⟨#[]⟩) (.string ⟨#[]⟩) (.slice Av 0 cv) (.string ⟨#[]⟩) (.bool false) (.int .i64 0) 400
        go_wp2_with fail
        go_ret
        exact ⟨rfl, bt hb3 hb4⟩
      | false =>
        by_cases hbig : 600 < n
        · have hpr := parse_row [putL, hostL, lineOf m D] wr #[.string putL, .string hostL, .string (lineOf m D)] 3 rfl rfl (by decide) (by decide) HS3.out _ (hP2.out hbig)
          have HPR := Lib.hid hpr
          clear hpr
          have t1 : decide ((600 : Int) < (n : Int)) = true := by simp; omega
          go_wp2_with fail
          refine HPR.out.mono ?_
          rintro e w4 ⟨v, rfl, hov, hb4⟩
          obtain ⟨Av, cv, rfl, _⟩ := Rd.own hov
          clear hov
          simp only [hdVal, badH]
          go_wp2_with fail
          go_ret
          exact ⟨rfl, ba (bt (ba hbr _) hb4) _⟩
        · have hpr := parse_row [putL, hostL, lineOf m D] wr #[.string putL, .string hostL, .string (lineOf m D)] 3 rfl rfl (by decide) (by decide) HS3.out _ (hP3.out hbig)
          have HPR := Lib.hid hpr
          clear hpr
          go_wp2_with fail
          refine HPR.out.mono ?_
          rintro e w4 ⟨v, rfl, hov, hb4⟩
          obtain ⟨Av, cv, rfl, _⟩ := Rd.own hov
          clear hov
          simp only [hdVal]
          go_wp2_with fail
          go_ret
          exact ⟨rfl, ba (bt (ba hbr _) hb4) _⟩
    · obtain ⟨c, hc⟩ : ∃ c : UInt8, c.toNat = 48 + k % 10 := ⟨UInt8.ofNat (48 + k % 10), by simp [UInt8.toNat_ofNat']; omega⟩
      have hst := dinv_step hinv.out (by
        by_cases h0 : 0 < k
        · exact .inl h0
        · exact .inr (by by_cases e : D.data.toList = []; exact e; exact absurd ⟨by omega, e⟩ hstop)) c hc
      have hcv := one_byte_at (48 + (k : Int) % 10) c (by rw [hc]; omega) wr
      have hsz : (⟨#[c]⟩ ++ D : ByteArray).size = 1 + D.size := app_size _ _
      have hdt : (⟨#[c]⟩ ++ D : ByteArray).data.toList = c :: D.data.toList := app_data _ _
      have hl5 := hst.2.1
      rw [List.length_cons, data_len] at hl5
      rw [← hdt] at hst
      have HST := Lib.hid hst
      have HSZ := Lib.hid hsz
      have HC := Lib.hid hc
      clear hst hdt hsz hc
      by_cases hk0 : 0 < k
      · go_wp2
        go_roundw
        case rel => exact ⟨k / 10, ⟨#[c]⟩ ++ D, by go_num, rfl, by omega, by rw [HSZ.out]; omega, HST, ba hbr _⟩
        case measure =>
          have h1 : 0 < (⟨#[c]⟩ ++ D : ByteArray).size := by rw [HSZ.out]; omega
          rw [strNone_more _ h1]
          simp [intOf]; omega
      · have hD0 : D.data.toList = [] := by by_cases e : D.data.toList = []; exact e; exact absurd ⟨by omega, e⟩ hstop
        have hDz : D.size = 0 := by rw [← data_len, hD0]; rfl
        have he : D.toList.isEmpty = true := str_empty D hD0
        go_wp2
        go_roundw
        case rel => exact ⟨k / 10, ⟨#[c]⟩ ++ D, by go_num, rfl, by omega, by rw [HSZ.out]; omega, HST, ba hbr _⟩
        case measure =>
          have h1 : 0 < (⟨#[c]⟩ ++ D : ByteArray).size := by rw [HSZ.out]; omega
          rw [strNone_more _ h1, strNone_empty D hDz]
          simp [intOf]; omega

theorem lengths_any (n0 m0 : Int) (ch : Bool) (w : World) (_h0 : (Lit.int .i64 n0).wf = true) (_h1 : (Lit.int .i64 m0).wf = true) : Calls Tryd.prog 7 #[.int .i64 n0, .int .i64 m0, .bool ch] w fun e w' => e = .returned (.bool true) ∧ Below w.heap.size w w' := lengths_walk n0 m0 ch w

end Go.Proofs.YtihdjgjceadooaaDoor
