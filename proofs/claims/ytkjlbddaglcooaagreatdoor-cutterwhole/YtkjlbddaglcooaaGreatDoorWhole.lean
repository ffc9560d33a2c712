/- The law CutterWhole, walked. -/
import Derived.Test.YtkjlbddaglcooaaGreatDoorSeedsLow
import Derived.Test.YtkjlbddaglcooaaGreatDoorBlank
import Derived.BigQuiet
namespace Go.Proofs.YtkjlbddaglcooaaGreatDoor
open Go.RowKit Pl
open Go.Lib (byteCells)

theorem i64_and16 (n : Int) : bits .and .i64 n 65535 = n % 65536 := by
  have h : (BitVec.ofInt 64 65535).toNat = 2 ^ 16 - 1 := by decide
  have key : (BitVec.ofInt 64 n &&& BitVec.ofInt 64 65535).toNat = (n % ((2 ^ 64 : Nat) : Int)).toNat % 2 ^ 16 := by
    rw [BitVec.toNat_and, BitVec.toNat_ofInt, h, Nat.and_two_pow_sub_one_eq_mod]
  show IntKind.i64.wrap ((BitVec.ofInt 64 n &&& BitVec.ofInt 64 65535).toNat : Nat) = n % 65536
  rw [key, IntKind.wrap_i64]
  omega
theorem idle_new (l : List UInt8) : idleB newC l = l.isEmpty := by simp [idleB, newC]
theorem ext_take (s : ByteArray) (k : Nat) : (s.extract 0 k).data.toList = s.data.toList.take k := by rw [Lib.extract_eq]; simp
theorem ext_drop (s : ByteArray) (k : Nat) : (s.extract k s.size).data.toList = s.data.toList.drop k := by
  rw [Lib.extract_eq]
  simp
  exact List.take_of_length_le (by simp)
/-- What is cut of a seed's text that comes in two parts. -/
theorem seed_two (mi ti bi tk ch : Nat) (h1 : mi < 6) (h2 : ti < 16) (h3 : bi < 8) (h4 : tk < 4) (h5 : ch < 4) (k : Nat) (hk : k < (seedT mi ti bi tk ch false).length) :
    ∃ c, nextC newC ((seedT mi ti bi tk ch false).take k) = (none, c, []) ∧ c.done = false ∧ Okc c ∧ idleB c [] = decide (k = 0) ∧ nextC c ((seedT mi ti bi tk ch false).drop k) = (some (seedRq mi ti bi tk ch false), newC, []) := by
  obtain ⟨c, e1, e2, e3⟩ := seed_cut mi ti bi tk ch false h1 h2 h3 h4 h5 k hk
  have e4 := seed_next mi ti bi tk ch h1 h2 h3 h4 h5 []
  rw [List.append_nil] at e4
  have n1 := next_app newC ((seedT mi ti bi tk ch false).take k) [] (by rw [e1]) (by rw [e1]; exact e2)
  have n2 := next_app newC ((seedT mi ti bi tk ch false).take k) ((seedT mi ti bi tk ch false).drop k) (by rw [e1]) (by rw [e1]; exact e2)
  have hok := okc_run okc_new ((seedT mi ti bi tk ch false).take k)
  rw [e1] at n1 n2 hok
  rw [List.append_nil] at n1
  rw [List.take_append_drop, e4] at n2
  exact ⟨c, n1, e2, hok, by rw [← e3]; simp [idleB], n2.symm⟩
theorem seed_pos (mi ti bi tk ch : Nat) (cl : Bool) : 0 < (seedT mi ti bi tk ch cl).length := by
  rw [seed_split]
  simp
  omega

set_option maxRecDepth 10000 in
set_option maxHeartbeats 8000000 in
theorem whole_core (m t b k c wr n : Int) (cl : Bool) (more : ByteArray) (m8 mi ti bi tk ch nk : Nat) (hm8 : m % 256 = (m8 : Int)) (hmi : m8 % 6 = mi) (hti : t % 16 = (ti : Int)) (hbi : b % 8 = (bi : Int)) (htk : k % 4 = (tk : Int)) (hch : c % 4 = (ch : Int)) (hnk : n % 65536 = (nk : Int)) (w : World) (hmx : MX w) (htb : TB w) :
    Calls Tryz.prog 4 #[.agg #[.int .i64 m, .int .i64 t, .int .i64 b, .int .i64 k, .int .i64 c, .bool cl, .int .i64 wr], .string more, .int .i64 n] w fun e w' => e = .returned (.bool true) ∧ Below w.heap.size w w' := by
  have b1 : mi < 6 := by omega
  have b2 : ti < 16 := by omega
  have b3 : bi < 8 := by omega
  have b4 : tk < 4 := by omega
  have b6 : ch < 4 := by omega
  have b5 : nk < 65536 := by omega
  have a1 := i64_and16 n
  rw [hnk] at a1
  have a3 := i64_and3 b
  rw [hbi] at a3
  have HX := Lib.hid fun w h => text_any m t b k c 0 false m8 mi ti bi tk ch 0 hm8 hmi hti hbi htk hch rfl (.inl rfl) w h
  have hsl : (mkT (seedT mi ti bi tk ch false)).size ≤ 3000 := by rw [mkT_size]; exact seed_len mi ti bi tk ch false b1 b2 b3 b4 b6
  have hsp : 0 < (mkT (seedT mi ti bi tk ch false)).size := by rw [mkT_size]; exact seed_pos mi ti bi tk ch false
  have HN1 : Hid (nextC newC (mkT (seedT mi ti bi tk ch false) ++ more).data.toList = (some (seedRq mi ti bi tk ch false), newC, more.data.toList)) := by
    have e : (mkT (seedT mi ti bi tk ch false) ++ more).data.toList = seedT mi ti bi tk ch false ++ more.data.toList := by simp [mkT]
    show _ = _
    rw [e]
    exact seed_next mi ti bi tk ch b1 b2 b3 b4 b6 _
  have HCUT : Hid (∀ k, k < (mkT (seedT mi ti bi tk ch false)).size → ∃ c, nextC newC ((mkT (seedT mi ti bi tk ch false)).extract 0 k).data.toList = (none, c, []) ∧ c.done = false ∧ Okc c ∧ idleB c [] = decide (k = 0) ∧ nextC c ((mkT (seedT mi ti bi tk ch false)).extract k (mkT (seedT mi ti bi tk ch false)).size).data.toList = (some (seedRq mi ti bi tk ch false), newC, [])) := fun k hk => by
    rw [ext_take, ext_drop, mkT_data]
    exact seed_two mi ti bi tk ch b1 b2 b3 b4 b6 k (by rw [mkT_size] at hk; exact hk)
  have HBT : Hid (∀ W, TB W → W.cell? ⟨0, bi, none⟩ = some (.string (seedRq mi ti bi tk ch false).body)) := fun W h => h.b bi b3
  have hfs : (seedRq mi ti bi tk ch false).fs.length ≤ 16 := fsK_len bi tk ch false b3 b4 b6
  generalize seedRq mi ti bi tk ch false = r at *
  generalize mkT (seedT mi ti bi tk ch false) = s1 at *
  have hb0 : Below w.heap.size w (w.alloc (.cells #[.int .i64 m, .int .i64 t, .int .i64 b, .int .i64 k, .int .i64 c, .bool cl, .int .i64 wr] 25)) := (Below.refl _ _).alloc (Nat.le_refl _) _
  have hq0 := heap_alloc_new w (.cells #[.int .i64 m, .int .i64 t, .int .i64 b, .int .i64 k, .int .i64 c, .bool cl, .int .i64 wr] 25)
  have HF := Lib.hid (fit_any _ (hmx.below hb0))
  have HB0 := Lib.hid hb0; have HQ0 := Lib.hid hq0; have HM := Lib.hid hmx; have HTB := Lib.hid htb
  clear hm8 hmi hti hbi htk hnk hch hb0 hq0 hmx htb b1 b2 b4 b6
  by_cases hbig : 500 < more.size
  · go_enter Tryz.func4, Tryz.ntmps4
    go_wp2_with fail
    refine HF.out.mono ?_
    rintro e w1 ⟨rfl, hb1⟩
    go_wp2_with fail
    go_ret
    exact ⟨rfl, bt HB0.out hb1⟩
  · obtain ⟨kk, hkk⟩ : ∃ kk : Nat, kk = nk % s1.size := ⟨_, rfl⟩
    have hkl : kk < s1.size := by rw [hkk]; exact Nat.mod_lt _ hsp
    have hrem : (nk : Int) % (s1.size : Int) = (kk : Int) := by rw [hkk]; simp
    clear hkk
    obtain ⟨c1, n1, n2, n3, n4, n5⟩ := HCUT.out kk hkl
    have HN2 := Lib.hid n1; have HND := Lib.hid n2; have HNO := Lib.hid n3; have HNI := Lib.hid n4; have HN3 := Lib.hid n5
    clear n1 n2 n3 n4 n5 HCUT
    go_enter Tryz.func4, Tryz.ntmps4
    go_wp2_with fail
    refine HF.out.mono ?_
    rintro e w1 ⟨rfl, hb1⟩
    have hq1 := (hb1.block _ (blk_lt HQ0.out)).trans HQ0.out
    have hbw1 := bt HB0.out hb1
    have d0 := blk_cell hq1 0; have d1 := blk_cell hq1 1; have d2 := blk_cell hq1 2; have d3 := blk_cell hq1 3; have d4 := blk_cell hq1 4; have d5 := blk_cell hq1 5; have d6 := blk_cell hq1 6
    have f5 := blk_free hq1 5; have f6 := blk_free hq1 6
    simp at d0 d1 d2 d3 d4 d5 d6
    have hbs : Below w.heap.size w ((w1.setCell ⟨w.heap.size, 6, none⟩ (.int .i64 0)).setCell ⟨w.heap.size, 5, none⟩ (.bool false)) := (hbw1.setCell (Nat.le_refl _) _).setCell (Nat.le_refl _) _
    have e6 : (w1.setCell ⟨w.heap.size, 6, none⟩ (.int .i64 0)).heap[w.heap.size]? = some (.cells #[.int .i64 m, .int .i64 t, .int .i64 b, .int .i64 k, .int .i64 c, .bool cl, .int .i64 0] 25 (0, 0)) := set_same 6 hq1
    have e5 : ((w1.setCell ⟨w.heap.size, 6, none⟩ (.int .i64 0)).setCell ⟨w.heap.size, 5, none⟩ (.bool false)).heap[w.heap.size]? = some (.cells #[.int .i64 m, .int .i64 t, .int .i64 b, .int .i64 k, .int .i64 c, .bool false, .int .i64 0] 25 (0, 0)) := set_same 5 e6
    have HBS := Lib.hid hbs; have HE5 := Lib.hid e5
    clear hb1 hq1 hbw1 hbs e6 e5 HF HQ0 HB0
    go_wp2_with fail
    refine (HX.out _ (HTB.out.below HBS.out)).mono ?_
    rintro e w2 ⟨rfl, hb2⟩
    have HB2 := Lib.hid (bt HBS.out hb2)
    have HQ2 := Lib.hid ((hb2.block _ (blk_lt HE5.out)).trans HE5.out)
    clear hb2 HX HE5 HBS d0 d1 d2 d3 d4 d5 d6 f5 f6
    go_wp2_with fail
    refine (cnew_any _).mono ?_
    rintro e w3 ⟨rfl, ho3, hb3⟩
    go_wp2_with fail
    refine (cfeed_any ho3 rfl (s1 ++ more) (by rw [app_size]; simp; omega)).mono ?_
    rintro e w4 ⟨rfl, ho4, hf4⟩
    rw [List.nil_append] at ho4
    have hb4 : Below w2.heap.size w2 w4 := hb3.trans (hf4.low fun k hk => ⟨hk, by omega⟩)
    have h42 : 4 < w2.heap.size := (HM.out.below HB2.out).lt
    have HNX := Lib.hid (cnext_any ho4 okc_new (fun h => (by cases h)) (HM.out.below (bt HB2.out hb4)) h42 _ HN1)
    have HB4 := Lib.hid hb4
    clear ho3 hb3 hf4 ho4 hb4
    go_wp2_with fail
    refine HNX.out.mono ?_
    rintro e w5 ⟨fv, rfl, hrow5, ho5, hf5⟩
    simp only [Option.getD_some, Option.isSome_some] at hrow5 ho5 ⊢
    obtain ⟨Af, cf, rfl, _⟩ := Rd.own hrow5
    have hb5 : Below w2.heap.size w2 w5 := HB4.out.trans (hf5.low fun k hk => ⟨hk, by omega⟩)
    have hb6 : Below w5.heap.size w5 (w5.alloc (.cells #[.string r.m, .string r.t, .slice Af r.fs.length cf, .string r.body, .bool r.close] 33)) := (Below.refl _ _).alloc (Nat.le_refl _) _
    have hb7 := bt hb5 hb6
    have hq7 := (hb7.block _ (blk_lt HQ2.out)).trans HQ2.out
    have d2 := blk_cell hq7 2
    simp at d2
    have hr7 := heap_alloc_new w5 (.cells #[.string r.m, .string r.t, .slice Af r.fs.length cf, .string r.body, .bool r.close] 33)
    have t0 := HBT.out _ (HTB.out.below (bt HB2.out hb7))
    have ho7 := ho5.below hb6
    have HQL : Hid (∀ j, Calls Tryz.prog 15 #[.pointer (some ⟨w2.heap.size, 0, none⟩)] ((w5.alloc (.cells #[.string r.m, .string r.t, .slice Af r.fs.length cf, .string r.body, .bool r.close] 33)).drewN j) fun e w'' => e = .returned (.int .i64 (more.size : Int)) ∧ ∃ q, w'' = (w5.alloc (.cells #[.string r.m, .string r.t, .slice Af r.fs.length cf, .string r.body, .bool r.close] 33)).drewN q) := fun j => by
      have := cleft_any (ho7.below (below_drewN _ _ j))
      simp only [data_len] at this
      exact this.mono fun _ _ h => ⟨h.1, j, h.2.symm⟩
    have HQI : Hid (∀ j, Calls Tryz.prog 16 #[.pointer (some ⟨w2.heap.size, 0, none⟩)] ((w5.alloc (.cells #[.string r.m, .string r.t, .slice Af r.fs.length cf, .string r.body, .bool r.close] 33)).drewN j) fun e w'' => e = .returned (.bool more.data.toList.isEmpty) ∧ ∃ q, w'' = (w5.alloc (.cells #[.string r.m, .string r.t, .slice Af r.fs.length cf, .string r.body, .bool r.close] 33)).drewN q) := fun j => by
      have := cidle_any (ho7.below (below_drewN _ _ j))
      rw [idle_new] at this
      exact this.mono fun _ _ h => ⟨h.1, j, h.2.symm⟩
    have hme : (more.data.toList == []) = more.data.toList.isEmpty := by cases more.data.toList <;> rfl
    have hme2 : (more.toList == []) = more.data.toList.isEmpty := by rw [Lib.toList_data]; exact hme
    have HB7 := Lib.hid (bt HB2.out hb7)
    have HR7 := Lib.hid hr7
    have HROW := Lib.hid (own_below hrow5 hb6)
    unfold rqVal
    clear hb5 hb6 hb7 hq7 hr7 hrow5 ho5 hf5 ho7 HNX HN1 HB4 HQ2 HB2 hme
    generalize more.data.toList.isEmpty = me at *
    go_wp2_with fail
    go_quiet ((first | (go_at_call 15; exact HQL.out _) | (go_at_call 16; exact HQI.out _)))
    have hbq : Below w.heap.size w ((w5.alloc (.cells #[.string r.m, .string r.t, .slice Af r.fs.length cf, .string r.body, .bool r.close] 33)).drewN nq) := HB7.out.trans (below_drewN _ _ nq)
    have hrq : ((w5.alloc (.cells #[.string r.m, .string r.t, .slice Af r.fs.length cf, .string r.body, .bool r.close] 33)).drewN nq).heap[w5.heap.size]? = some (.cells #[.string r.m, .string r.t, .slice Af r.fs.length cf, .string r.body, .bool r.close] 33 (0, 0)) := HR7.out
    have hrow := own_below HROW.out (below_drewN _ _ nq)
    have HBQ := Lib.hid hbq; have HRQ := Lib.hid hrq; have HRO := Lib.hid hrow
    clear hbq hrq hrow HQL HQI HB7 HR7 HROW d2 t0 hme2
    generalize (w5.alloc (.cells #[.string r.m, .string r.t, .slice Af r.fs.length cf, .string r.body, .bool r.close] 33)).drewN nq = V at *
    have hz1 : (s1.extract 0 kk).size = kk := by rw [← data_len, ext_take, List.length_take, data_len]; omega
    have hz2 : (s1.extract kk s1.size).size = s1.size - kk := by rw [← data_len, ext_drop, List.length_drop, data_len]
    have HZ1 := Lib.hid hz1; have HZ2 := Lib.hid hz2
    clear hz1 hz2
    go_wp2_with fail
    refine (cnew_any _).mono ?_
    rintro e w8 ⟨rfl, ho8, hb8⟩
    go_wp2_with fail
    refine (cfeed_any ho8 rfl (s1.extract 0 kk) (by rw [HZ1.out]; simp; omega)).mono ?_
    rintro e w9 ⟨rfl, ho9, hf9⟩
    rw [List.nil_append] at ho9
    have hb9 : Below V.heap.size V w9 := hb8.trans (hf9.low fun k hk => ⟨hk, by omega⟩)
    have h4V : 4 < V.heap.size := (HM.out.below HBQ.out).lt
    have HNX := Lib.hid (cnext_any ho9 okc_new (fun h => (by cases h)) (HM.out.below (bt HBQ.out hb9)) h4V _ HN2)
    have HB9 := Lib.hid hb9
    clear ho8 hb8 hf9 ho9 hb9
    go_wp2_with fail
    refine HNX.out.mono ?_
    rintro e w10 ⟨fv2, rfl, hrow10, ho10, hf10⟩
    simp only [Option.getD_none, Option.isSome_none] at hrow10 ho10 ⊢
    obtain ⟨Ag, cg, rfl, _⟩ := Rd.own hrow10
    have hb10 : Below V.heap.size V w10 := HB9.out.trans (hf10.low fun k hk => ⟨hk, by omega⟩)
    have hb11 : Below w10.heap.size w10 (w10.alloc (.cells #[.string ⟨#[]⟩, .string ⟨#[]⟩, .slice Ag 0 cg, .string ⟨#[]⟩, .bool false] 33)) := (Below.refl _ _).alloc (Nat.le_refl _) _
    have ho11 := ho10.below hb11
    have HD1 := Lib.hid (cdone_any ho11)
    have HL1 := Lib.hid (cleft_any ho11)
    have HI1 := Lib.hid (cidle_any ho11)
    rw [HND.out] at HD1
    rw [HNI.out] at HI1
    simp only [List.length_nil] at HL1
    have HFD := Lib.hid (cfeed_any ho11 HND.out (s1.extract kk s1.size) (by rw [HZ2.out]; simp; omega))
    rw [List.nil_append] at HFD
    have HB11 := Lib.hid (bt hb10 hb11)
    unfold rqVal nilRq emptyB
    clear hrow10 ho10 hf10 hb10 hb11 ho11 HNX HB9
    have hdk : ((kk : Int) == 0) = decide (kk = 0) := by
      rw [Bool.eq_iff_iff]
      simp
    generalize decide (kk = 0) = kz at *
    go_wp2_with fail
    refine HD1.out.mono ?_
    rintro e w12 ⟨rfl, rfl⟩
    go_wp2_with fail
    refine HL1.out.mono ?_
    rintro e w12 ⟨rfl, rfl⟩
    go_wp2_with fail
    refine HI1.out.mono ?_
    rintro e w12 ⟨rfl, rfl⟩
    clear HD1 HL1 HI1
    go_wp2_with fail
    refine HFD.out.mono ?_
    rintro e w13 ⟨rfl, ho13, hf13⟩
    have hb13 : Below V.heap.size V w13 := HB11.out.trans (hf13.low fun k hk => ⟨hk, by omega⟩)
    have HNX := Lib.hid (cnext_any ho13 HNO.out (fun h => (by rw [HND.out] at h; cases h)) (HM.out.below (bt HBQ.out hb13)) h4V _ HN3)
    have HB13 := Lib.hid hb13
    clear ho13 hf13 hb13 HFD HB11
    go_wp2_with fail
    refine HNX.out.mono ?_
    rintro e w14 ⟨fv3, rfl, hrow14, ho14, hf14⟩
    simp only [Option.getD_some, Option.isSome_some] at hrow14 ho14 ⊢
    obtain ⟨Ah, cq, rfl, _⟩ := Rd.own hrow14
    have hb14 : Below V.heap.size V w14 := HB13.out.trans (hf14.low fun k hk => ⟨hk, by omega⟩)
    have hb15 : Below w14.heap.size w14 (w14.alloc (.cells #[.string r.m, .string r.t, .slice Ah r.fs.length cq, .string r.body, .bool r.close] 33)) := (Below.refl _ _).alloc (Nat.le_refl _) _
    have hb16 := bt hb14 hb15
    have hq16 := (hb16.block _ (blk_lt HRQ.out)).trans HRQ.out
    have u0 := blk_cell hq16 0; have u1 := blk_cell hq16 1; have u2 := blk_cell hq16 2; have u3 := blk_cell hq16 3; have u4 := blk_cell hq16 4
    simp at u0 u1 u2 u3 u4
    have HSA := Lib.hid (same_any r _ _ _ (own_below hrow14 hb15) (own_below HRO.out hb16) (by omega))
    have HI2 := Lib.hid fun w' (h : Below (w14.alloc (.cells #[.string r.m, .string r.t, .slice Ah r.fs.length cq, .string r.body, .bool r.close] 33)).heap.size (w14.alloc (.cells #[.string r.m, .string r.t, .slice Ah r.fs.length cq, .string r.body, .bool r.close] 33)) w') => cidle_any ((ho14.below hb15).below h)
    simp only [idle_new, List.isEmpty_nil] at HI2
    have HB16 := Lib.hid (bt HBQ.out hb16)
    unfold rqVal at HSA ⊢
    clear hrow14 ho14 hf14 hb14 hb15 hb16 hq16 HNX HB13
    go_wp2_with fail
    refine HSA.out.mono ?_
    rintro e w17 ⟨rfl, hb17⟩
    have HI3 := Lib.hid (HI2.out w17 hb17)
    have HB17 := Lib.hid (bt HB16.out hb17)
    clear hb17 HI2 HSA u0 u1 u2 u3 u4
    go_wp2_with fail
    refine HI3.out.mono ?_
    rintro e w18 ⟨rfl, rfl⟩
    go_wp2_with fail
    go_ret
    exact ⟨rfl, HB17.out⟩

theorem whole_walk (m t b k c wr : Int) (more : ByteArray) (n : Int) (cl : Bool) (w : World) (hmx : MX w) (htb : TB w) :
    Calls Tryz.prog 4 #[.agg #[.int .i64 m, .int .i64 t, .int .i64 b, .int .i64 k, .int .i64 c, .bool cl, .int .i64 wr], .string more, .int .i64 n] w fun e w' => e = .returned (.bool true) ∧ Below w.heap.size w w' :=
  whole_core m t b k c wr n cl more (m % 256).toNat ((m % 256).toNat % 6) (t % 16).toNat (b % 8).toNat (k % 4).toNat (c % 4).toNat (n % 65536).toNat (by omega) rfl (by omega) (by omega) (by omega) (by omega) (by omega) w hmx htb
end Go.Proofs.YtkjlbddaglcooaaGreatDoor
