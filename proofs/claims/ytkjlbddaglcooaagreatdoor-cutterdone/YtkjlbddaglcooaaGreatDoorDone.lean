/- The law CutterDone, walked. -/
import Derived.Test.YtkjlbddaglcooaaGreatDoorSeedsLow
namespace Go.Proofs.YtkjlbddaglcooaaGreatDoor
open Go.RowKit Pl
open Go.Lib (byteCells)

def Sv.plain (s : Sv) : Sv := ⟨s.m, s.t, s.b, s.k, s.c, false, 0⟩
theorem plain_open (s : Sv) : (sdOf s.plain).bad = false ∧ (sdOf s.plain).cl = false := ⟨rfl, rfl⟩
theorem sdCut_open (S : List Sd) (h : ∀ s ∈ S, s.bad = false ∧ s.cl = false) : (sdCut S).1.done = false := by
  induction S with
  | nil => rfl
  | cons s l ih =>
    obtain ⟨h1, h2⟩ := h s (by simp)
    rw [sdCut, if_neg (by rw [h1]; simp), if_neg (by rw [h2]; simp)]
    exact ih fun x hx => h x (by simp [hx])
theorem sdCut_last (S : List Sd) (h : ∀ s ∈ S, s.bad = false ∧ s.cl = false) (q : Sd) (hq : q.bad = true ∨ q.cl = true) : (sdCut (S ++ [q])).1.done = true := by
  rw [sdCut_snoc, if_neg (by rw [sdCut_open S h]; simp)]
  by_cases hb : q.bad = true
  · rw [if_pos hb]; rfl
  · rw [if_neg hb, if_pos (hq.resolve_left hb)]; rfl

/-- Where the loop over Next stands. -/
structure DS (w : World) (P : Nat → Prop) (g : Nat) (R : Cst) (rb : Nat) (ok : Bool) (W : World) (c1 : Cst) (l1 : List UInt8) : Prop where
  blk : ∃ (x0 x1 x3 : ByteArray) (Ax : Option Addr) (nx cx : Nat) (x4 : Bool), W.heap[rb]? = some (.cells #[.string x0, .string x1, .slice Ax nx cx, .string x3, .bool x4] 33 (0, 0))
  co : CO P W g c1 l1
  okc : Okc c1
  dl : c1.done = true → l1 = []
  bel : Below w.heap.size w W
  more : ok = true → (runC c1 l1).1 = R
  last : ok = false → c1 = R ∧ l1 = []
theorem DS.call {w : World} {P : Nat → Prop} {g : Nat} {R : Cst} {rb : Nat} {W : World} {c1 : Cst} {l1 : List UInt8} (h : DS w P g R rb true W c1 l1) (hm : MX w) (h4 : P 4) (cs : Array Value) (N : Option Rq × Cst × List UInt8) (hN : nextC c1 l1 = N) :
    Calls Tryz.prog 14 #[.pointer (some ⟨g, 0, none⟩)] (W.alloc (.cells cs 33)) fun e w' => Nexted (fun k => P k ∨ k = W.heap.size) (W.alloc (.cells cs 33)) g N e w' := by
  have hb1 : Below W.heap.size W (W.alloc (.cells cs 33)) := (Below.refl _ _).alloc (Nat.le_refl _) _
  obtain ⟨wv, lv, fv, bv, hv⟩ := h.co
  have hco : CO (fun k => P k ∨ k = W.heap.size) (W.alloc (.cells cs 33)) g c1 l1 := ⟨wv, lv, fv, bv, hv.grow hb1 fun k hk => by
    rcases hk with hk | rfl
    · exact ⟨.inl hk, Nat.lt_of_lt_of_le (hv.lo k hk) hb1.size⟩
    · exact ⟨.inr (Nat.le_refl _), by simp⟩⟩
  exact cnext_any hco h.okc h.dl (hm.below (bt h.bel hb1)) (.inl h4) N (Lib.hid hN)
theorem DS.next {w : World} {P : Nat → Prop} {g : Nat} {R : Cst} {rb : Nat} {W w3 : World} {c1 : Cst} {l1 : List UInt8} (h : DS w P g R rb true W c1 l1) (hP : ∀ k, k < w.heap.size → P k) (x0 x1 x3 : ByteArray) (Ax : Option Addr) (nx cx : Nat) (x4 : Bool) (N : Option Rq × Cst × List UInt8) (hN : nextC c1 l1 = N)
    (ho : CO (fun k => P k ∨ k = W.heap.size) w3 g N.2.1 N.2.2) (hf : Fr (fun k => P k ∨ k = W.heap.size) g (W.alloc (.cells #[.string x0, .string x1, .slice Ax nx cx, .string x3, .bool x4] 33)) w3) : DS w P g R W.heap.size N.1.isSome w3 N.2.1 N.2.2 := by
  have hb1 : Below W.heap.size W (W.alloc (.cells #[.string x0, .string x1, .slice Ax nx cx, .string x3, .bool x4] 33)) := (Below.refl _ _).alloc (Nat.le_refl _) _
  obtain ⟨wv, lv, fv, bv, hv⟩ := h.co
  have hgl := hv.lt
  obtain ⟨k1, k2, k3, k4, _⟩ := nexted_facts h.okc hN
  refine ⟨⟨x0, x1, x3, Ax, nx, cx, x4, ?_⟩, ?_, k1, k2, ?_, fun hs => ?_, fun hs => ?_⟩
  · exact (hf.block W.heap.size (.inr rfl) (by omega)).trans (heap_alloc_new W _)
  · obtain ⟨a, b, c, d, hh⟩ := ho
    exact ⟨a, b, c, d, hh.weak fun k hk => .inl hk⟩
  · refine (bt h.bel hb1).trans (hf.low fun k hk => ⟨.inl (hP k hk), fun e => hv.ng (e ▸ hP k hk)⟩)
  · have := h.more rfl
    rw [(k3 hs).1] at this
    exact this
  · have e1 := h.more rfl
    rw [k4 hs] at e1
    have e2 : N.2.2 = [] := by
      rcases N with ⟨o, c2, l2⟩
      cases o with
      | some r => cases hs
      | none => exact (next_none l1 c2 l2 hN).2
    exact ⟨e1, e2⟩

set_option maxRecDepth 10000 in
set_option maxHeartbeats 8000000 in
theorem done_walk (ss : List Sv) (A : Option Addr) (cp : Nat) (m t b k c wr0 : Int) (more : ByteArray) (cl : Bool) (w : World) (hrd : Rd w w.heap.size 7 A ss.length (svCells ss)) (hcp : ss.length ≤ cp) (hcm : cp ≤ maxLen) (hmx : MX w) (htb : TB w) :
    Calls Tryz.prog 7 #[.slice A ss.length cp, .agg #[.int .i64 m, .int .i64 t, .int .i64 b, .int .i64 k, .int .i64 c, .bool cl, .int .i64 wr0], .string more] w fun e w' => e = .returned (.bool true) ∧ Below w.heap.size w w' := by
  have hb0 : Below w.heap.size w (w.alloc (.cells #[.int .i64 m, .int .i64 t, .int .i64 b, .int .i64 k, .int .i64 c, .bool cl, .int .i64 wr0] 25)) := (Below.refl _ _).alloc (Nat.le_refl _) _
  have hq0 := heap_alloc_new w (.cells #[.int .i64 m, .int .i64 t, .int .i64 b, .int .i64 k, .int .i64 c, .bool cl, .int .i64 wr0] 25)
  have HF := Lib.hid (fit_any _ (hmx.below hb0))
  have HM := Lib.hid hmx; have HTB := Lib.hid htb; have HRD := Lib.hid hrd; have HB0 := Lib.hid hb0; have HQ0 := Lib.hid hq0
  unfold maxLen at hcm
  clear hmx htb hrd hb0 hq0
  by_cases hbig : 8 < ss.length
  · go_enter Tryz.func7, Tryz.ntmps7
    go_wp2_with fail
    refine HF.out.mono ?_
    rintro e w1 ⟨rfl, hb1⟩
    go_wp2_with fail
    go_ret
    exact ⟨rfl, bt HB0.out hb1⟩
  · by_cases hmb : 1000 < more.size
    · go_enter Tryz.func7, Tryz.ntmps7
      go_wp2_with fail
      refine HF.out.mono ?_
      rintro e w1 ⟨rfl, hb1⟩
      go_wp2_with fail
      go_ret
      exact ⟨rfl, bt HB0.out hb1⟩
    · have a4 := i64_and4 wr0
      have hwk : wr0 % 16 = ((wr0 % 16).toNat : Int) := by omega
      have hwb : (wr0 % 16).toNat < 16 := by omega
      rw [hwk] at a4
      have HBD : Hid (∀ x, (sdOf ⟨m, t, b, k, c, x, wr0⟩).bad = (decide (1 ≤ (wr0 % 16).toNat) && decide ((wr0 % 16).toNat ≤ 3))) := fun x => rfl
      clear hwk
      generalize (wr0 % 16).toNat = wk at *
      go_enter Tryz.func7, Tryz.ntmps7
      go_wp2_with fail
      refine HF.out.mono ?_
      rintro e w1 ⟨rfl, hb1⟩
      have HB1 := Lib.hid (bt HB0.out hb1)
      have HQ1 := Lib.hid ((hb1.block _ (blk_lt HQ0.out)).trans HQ0.out)
      clear hb1 HF HB0 HQ0
      go_wp2_with fail
      go_loopw [7, 32] (fun v7 v32 wr => ∃ (i : Nat), i ≤ ss.length ∧ v32 = .int .i64 i ∧ v7 = .string (mkT (sdText ((ss.map fun s => sdOf s.plain).take i))) ∧ Below w1.heap.size w1 wr) (fun _ v32 _ => ss.length - (intOf v32).toNat)
      case atStart => exact ⟨0, Nat.zero_le _, rfl, rfl, Below.refl _ _⟩
      case round =>
        obtain ⟨i, hi, rfl, rfl, hbw⟩ := hrel
        have HBW := Lib.hid hbw
        clear hbw
        have hok : ∀ x ∈ ss.map (fun s => sdOf s.plain), x.Ok := fun x hx => by
          obtain ⟨y, _, rfl⟩ := List.mem_map.1 hx
          exact sdOf_ok _
        have hts : (mkT (sdText ((ss.map fun s => sdOf s.plain).take i))).size ≤ i * 3000 := by
          rw [mkT_size]
          refine Nat.le_trans (sdText_len _ fun x hx => hok x (List.mem_of_mem_take hx)) ?_
          exact Nat.mul_le_mul_right _ (by rw [List.length_take]; exact Nat.min_le_left _ _)
        have HOK := Lib.hid hok
        clear hok
        by_cases hlt : i < ss.length
        · obtain ⟨a, rfl, hal, hsv⟩ := sv_in (HRD.out.below (bt HB1.out HBW.out) (Nat.le_refl _)) i hlt
          have hget : (ss.map fun s => sdOf s.plain)[i]? = some (sdOf (ss[i]).plain) := by rw [List.getElem?_map, List.getElem?_eq_getElem hlt]; rfl
          have HTX : Hid (mkT (sdText ((ss.map fun s => sdOf s.plain).take i)) ++ mkT (sdOf (ss[i]).plain).text = mkT (sdText ((ss.map fun s => sdOf s.plain).take (i + 1)))) := by
            show _ = _
            rw [mkT_app, List.take_add_one, hget]
            simp only [Option.toList]
            rw [sdText_snoc]
          clear hget
          generalize ss[i] = s at *
          obtain ⟨c0, c1, c2, c3, c4, c5, c6⟩ := hsv
          have HX := Lib.hid (text_sv s.plain)
          simp only [Sv.plain] at HX
          have hz : (mkT (sdOf s.plain).text).size ≤ 3000 := by rw [mkT_size]; exact sd_len _ (sdOf_ok _)
          have HBA : Hid (Below w1.heap.size w1 (wr.alloc (.cells #[.int .i64 s.m, .int .i64 s.t, .int .i64 s.b, .int .i64 s.k, .int .i64 s.c, .bool false, .int .i64 0] 25))) := HBW.out.alloc HBW.out.size _
          generalize hT2 : mkT (sdText ((ss.map fun s => sdOf s.plain).take (i + 1))) = t2 at *
          have HT2 := Lib.hid hT2
          clear hT2
          generalize mkT (sdText ((ss.map fun s => sdOf s.plain).take i)) = t1 at *
          unfold Sv.plain at hz HTX
          generalize mkT (sdOf ⟨s.m, s.t, s.b, s.k, s.c, false, 0⟩).text = tx at *
          go_wp2_with fail
          refine (HX.out _ (HTB.out.below (bt HB1.out HBA.out))).mono ?_
          rintro e w2 ⟨rfl, hb2⟩
          have HB2 := Lib.hid (bt HBA.out hb2)
          clear hb2 HX c0 c1 c2 c3 c4 c5 c6 HBA
          go_wp2_with fail
          go_roundw
          case rel => exact ⟨i + 1, by omega, by go_num, by rw [HTX.out, ← HT2.out], HB2.out⟩
          case measure => simp [intOf]; omega
        · obtain rfl : i = ss.length := by omega
          have htk : (ss.map fun s => sdOf s.plain).take ss.length = ss.map fun s => sdOf s.plain := List.take_of_length_le (by simp)
          rw [htk] at hts ⊢
          have HRUN : Hid (∀ q : Sd, q.Ok → (q.bad = true ∨ q.cl = true) → ∃ R : Cst × List Rq, R.1.done = true ∧ runC newC (mkT (sdText (ss.map fun s => sdOf s.plain)) ++ mkT q.text).data.toList = R ∧ runC newC (mkT (sdText (ss.map fun s => sdOf s.plain)) ++ mkT q.text ++ more).data.toList = R) := fun q hq hl => by
            have hop : ∀ x ∈ ss.map (fun s => sdOf s.plain), x.bad = false ∧ x.cl = false := fun x hx => by
              obtain ⟨y, _, rfl⟩ := List.mem_map.1 hx
              exact plain_open y
            have hok2 : ∀ x ∈ (ss.map fun s => sdOf s.plain) ++ [q], x.Ok := fun x hx => by
              rw [List.mem_append, List.mem_singleton] at hx
              rcases hx with hx | rfl
              · exact HOK.out x hx
              · exact hq
            have hd := sdCut_last _ hop q hl
            refine ⟨sdCut ((ss.map fun s => sdOf s.plain) ++ [q]), hd, ?_, ?_⟩
            · rw [mkT_app, ← sdText_snoc, mkT_data]
              exact sd_whole _ hok2
            · rw [mkT_app, ← sdText_snoc]
              have e : (mkT (sdText ((ss.map fun s => sdOf s.plain) ++ [q])) ++ more).data.toList = sdText ((ss.map fun s => sdOf s.plain) ++ [q]) ++ more.data.toList := by simp [mkT]
              rw [e, sd_run _ hok2, if_pos hd]
          have hq2 := (HBW.out.block _ (blk_lt HQ1.out)).trans HQ1.out
          have d0 := blk_cell hq2 0; have d1 := blk_cell hq2 1; have d2 := blk_cell hq2 2; have d3 := blk_cell hq2 3; have d4 := blk_cell hq2 4; have d5 := blk_cell hq2 5; have d6 := blk_cell hq2 6
          have f5 := blk_free hq2 5
          simp at d0 d1 d2 d3 d4 d5 d6
          have hbw0 : Below w.heap.size w wr := bt HB1.out HBW.out
          have hbs : Below w.heap.size w (wr.setCell ⟨w.heap.size, 5, none⟩ (.bool true)) := hbw0.setCell (Nat.le_refl _) _
          have HC1 : Hid (∃ q : Sd, q.Ok ∧ ((decide (1 ≤ wk) && decide (wk ≤ 3)) = true → q.bad = true ∨ q.cl = true) ∧ Calls Tryz.prog 10 #[.agg #[.int .i64 m, .int .i64 t, .int .i64 b, .int .i64 k, .int .i64 c, .bool cl, .int .i64 wr0]] wr fun e w' => e = .returned (.string (mkT q.text)) ∧ Below w.heap.size w w') :=
            ⟨sdOf ⟨m, t, b, k, c, cl, wr0⟩, sdOf_ok _, fun h => .inl (by rw [HBD.out]; exact h), (text_sv ⟨m, t, b, k, c, cl, wr0⟩ wr (HTB.out.below hbw0)).mono fun e w' h => ⟨h.1, bt hbw0 h.2⟩⟩
          have HC2 : Hid (∃ q : Sd, q.Ok ∧ (q.bad = true ∨ q.cl = true) ∧ Calls Tryz.prog 10 #[.agg #[.int .i64 m, .int .i64 t, .int .i64 b, .int .i64 k, .int .i64 c, .bool true, .int .i64 wr0]] (wr.setCell ⟨w.heap.size, 5, none⟩ (.bool true)) fun e w' => e = .returned (.string (mkT q.text)) ∧ Below w.heap.size w w') :=
            ⟨sdOf ⟨m, t, b, k, c, true, wr0⟩, sdOf_ok _, .inr rfl, (text_sv ⟨m, t, b, k, c, true, wr0⟩ _ (HTB.out.below hbs)).mono fun e w' h => ⟨h.1, bt hbs h.2⟩⟩
          clear hq2 hbw0 hbs htk HOK HQ1 HB1 HBW HBD HRD
          generalize mkT (sdText (ss.map fun s => sdOf s.plain)) = t1 at *
          have hwc : (1 ≤ wk ∧ wk ≤ 3) ∨ wk = 0 ∨ 3 < wk := by omega
          rcases hwc with hwc | hwc | hwc
          · obtain ⟨q, hqk, hql, hqc⟩ := HC1.out
            have hql := hql (by rw [Bool.and_eq_true, decide_eq_true_eq, decide_eq_true_eq]; exact hwc)
            have hd1 : decide ((wk : Int) < 1) = false := decide_eq_false (by omega)
            have hd2 : decide ((3 : Int) < (wk : Int)) = false := decide_eq_false (by omega)
            obtain ⟨R, hRd, hR1, hR2⟩ := HRUN.out q hqk hql
            have hz : (mkT q.text).size ≤ 3000 := by rw [mkT_size]; exact sd_len _ hqk
            generalize mkT q.text = tx at *
            have HC := Lib.hid hqc
            clear HC1 HC2 HRUN
            have HA1 := Lib.hid fun w h => call_all (t1 ++ tx) w h (by rw [app_size]; omega) R (Lib.hid hR1)
            have HA2 := Lib.hid fun w h => call_all (t1 ++ tx ++ more) w h (by rw [app_size, app_size]; omega) R (Lib.hid hR2)
            have HRD := Lib.hid hRd; have HR1 := Lib.hid hR1
            have hsz : (t1 ++ tx).size ≤ 30000 := by rw [app_size]; omega
            clear hqk hql hqc hR1 hR2 hRd
            go_wp2_with fail
            refine HC.out.mono ?_
            rintro e w2 ⟨rfl, hb2⟩
            have HB2 := Lib.hid hb2
            clear hb2 HC d0 d1 d2 d3 d4 d5 d6 f5
            go_wp2_with fail
            refine (HA1.out _ (HM.out.below HB2.out)).mono ?_
            rintro e w3 ⟨v1, xs, rfl, hxs, hrq1, hb3⟩
            have HB3 := Lib.hid (bt HB2.out hb3)
            have hlx : xs.length = R.2.length := by rw [← hxs, List.length_map]
            obtain ⟨A1, c1, rfl, _⟩ := Rd.own hrq1.row
            clear hb3 hrq1 hxs HA1
            rw [hlx]
            clear hlx
            go_wp2_with fail
            refine (HA2.out _ (HM.out.below HB3.out)).mono ?_
            rintro e w4 ⟨v2, ys, rfl, hys, hrq2, hb4⟩
            have HB4 := Lib.hid (bt HB3.out hb4)
            have hly : ys.length = R.2.length := by rw [← hys, List.length_map]
            obtain ⟨A2, c2, rfl, _⟩ := Rd.own hrq2.row
            clear hb4 hrq2 hys HA2
            rw [hly]
            clear hly
            generalize R.2.length = nR at *
            generalize t1 ++ tx = T at *
            go_wp2_with fail
            refine (cnew_any _).mono ?_
            rintro e w5 ⟨rfl, ho5, hb5⟩
            go_wp2_with fail
            refine (cfeed_any ho5 rfl T (by simp; omega)).mono ?_
            rintro e w6 ⟨rfl, ho6, hf6⟩
            have hb6 : Below w4.heap.size w4 w6 := hb5.trans (hf6.low fun k hk => ⟨hk, by omega⟩)
            rw [List.nil_append] at ho6
            have h04 : 4 < w4.heap.size := (HM.out.below HB4.out).lt
            have HNX := Lib.hid (cnext_any ho6 okc_new (fun h => (by cases h)) (HM.out.below (bt HB4.out hb6)) h04 _ (Lib.hid rfl))
            have hfx := nexted_facts okc_new (rfl : nextC newC T.data.toList = _)
            have hnn := fun c2 l2 => next_none (c := newC) T.data.toList c2 l2
            generalize nextC newC T.data.toList = N at *
            rw [HR1.out] at hfx
            have HFX := Lib.hid hfx; have HNN := Lib.hid hnn; have HB6 := Lib.hid hb6
            clear ho5 hf6 hb5 ho6 hfx hnn hb6
            go_wp2_with fail
            refine HNX.out.mono ?_
            rintro e w7 ⟨fv, rfl, hrow7, ho7, hf7⟩
            obtain ⟨Af, cf, rfl, _⟩ := Rd.own hrow7
            have hb7 : Below w4.heap.size w4 w7 := HB6.out.trans (hf7.low fun k hk => ⟨hk, by omega⟩)
            have HDS : Hid (DS w (fun k => k < w4.heap.size) w4.heap.size R.1 w7.heap.size N.1.isSome (w7.alloc (.cells #[.string (N.1.getD nilRq).m, .string (N.1.getD nilRq).t, .slice Af (N.1.getD nilRq).fs.length cf, .string (N.1.getD nilRq).body, .bool (N.1.getD nilRq).close] 33)) N.2.1 N.2.2) := by
              have hb8 : Below w7.heap.size w7 (w7.alloc (.cells #[.string (N.1.getD nilRq).m, .string (N.1.getD nilRq).t, .slice Af (N.1.getD nilRq).fs.length cf, .string (N.1.getD nilRq).body, .bool (N.1.getD nilRq).close] 33)) := (Below.refl _ _).alloc (Nat.le_refl _) _
              obtain ⟨k1, k2, k3, k4, k5⟩ := HFX.out
              refine ⟨⟨_, _, _, _, _, _, _, heap_alloc_new w7 _⟩, ho7.below hb8, k1, k2, bt HB4.out (bt hb7 hb8), fun hs => ?_, fun hs => ?_⟩
              · rw [(k3 hs).1]
              · refine ⟨by rw [k4 hs], ?_⟩
                have hn := HNN.out
                rcases N with ⟨o, c9, l9⟩
                cases o with
                | some r => cases hs
                | none => exact (hn c9 l9 rfl).2
            unfold rqVal
            clear hrow7 ho7 hf7 hb7 HFX HNN HNX HB6 HR1
            generalize N.1.getD nilRq = o0 at *
            generalize N.1.isSome = ok0 at *
            generalize N.2.1 = c0 at *
            generalize N.2.2 = l0 at *
            obtain ⟨Rc, Rl⟩ := R
            simp only at *
            go_wp2_with fail
            go_loopw [16, 17] (fun v16 v17 wr => ∃ (rb : Nat) (ok : Bool) (c1 : Cst) (l1 : List UInt8), v16 = .pointer (some ⟨rb, 0, none⟩) ∧ v17 = .bool ok ∧ Hid (DS w (fun k => k < w4.heap.size) w4.heap.size Rc rb ok wr c1 l1)) (fun _ v17 wr => waitLen wr w4.heap.size * 2 + okLen v17)
            case atStart => exact ⟨_, _, _, _, rfl, rfl, HDS⟩
            case round =>
              obtain ⟨rb, ok, c1, l1, rfl, rfl, HD⟩ := hrel
              clear HDS
              cases ok with
              | true =>
                obtain ⟨x0, x1, x3, Ax, nx, cx, x4, hblk⟩ := HD.out.blk
                have e0 := blk_cell hblk 0; have e1 := blk_cell hblk 1; have e2 := blk_cell hblk 2; have e3 := blk_cell hblk 3; have e4 := blk_cell hblk 4
                simp at e0 e1 e2 e3 e4
                have HNX := Lib.hid (HD.out.call HM.out h04 #[.string x0, .string x1, .slice Ax nx cx, .string x3, .bool x4] _ rfl)
                have HNE := Lib.hid fun w3 => HD.out.next (w3 := w3) (fun k hk => Nat.lt_of_lt_of_le hk HB4.out.size) x0 x1 x3 Ax nx cx x4 _ rfl
                have HWL := Lib.hid (co_wait HD.out.co)
                have HLX := Lib.hid (nexted_facts HD.out.okc (rfl : nextC c1 l1 = _)).2.2.2.2
                generalize nextC c1 l1 = N2 at *
                clear hblk HD
                go_wp2_with fail
                refine HNX.out.mono ?_
                rintro e w9 ⟨fv9, rfl, hrow9, ho9, hf9⟩
                have HD2 := Lib.hid (HNE.out w9 ho9 hf9)
                obtain ⟨Ag, cg, rfl, _⟩ := Rd.own hrow9
                unfold rqVal
                clear hrow9 ho9 hf9 HNE HNX e0 e1 e2 e3 e4
                generalize N2.1.getD nilRq = o9 at *
                generalize N2.1.isSome = ok9 at *
                generalize N2.2.1 = c9 at *
                generalize N2.2.2 = l9 at *
                go_wp2_with fail
                go_roundw
                case rel => exact ⟨_, _, _, _, rfl, rfl, HD2⟩
                case measure =>
                  have e1 := co_wait HD2.out.co
                  rw [e1, HWL.out]
                  have := HLX.out
                  cases ok9 <;> simp [okLen] at this ⊢ <;> omega
              | false =>
                obtain ⟨rfl, rfl⟩ := HD.out.last rfl
                have HFD := Lib.hid (cfeed_done HD.out.co HRD.out more)
                have HNX := Lib.hid (cnext_any HD.out.co HD.out.okc HD.out.dl (HM.out.below HD.out.bel) h04 (none, c1, []) (Lib.hid rfl))
                have HBD := Lib.hid HD.out.bel
                have hwl : w.heap.size ≤ w4.heap.size := HB4.out.size
                clear HD
                go_wp2_with fail
                refine HFD.out.mono ?_
                rintro e w8 ⟨rfl, rfl⟩
                go_wp2_with fail
                refine HNX.out.mono ?_
                rintro e w9 ⟨fv9, rfl, hrow9, ho9, hf9⟩
                obtain ⟨Ag, cg, rfl, _⟩ := Rd.own hrow9
                have hb9 : Below w.heap.size w w9 := HBD.out.trans (hf9.low fun k hk => ⟨by omega, by omega⟩)
                have hb10 : Below w9.heap.size w9 (w9.alloc (.cells #[.string ⟨#[]⟩, .string ⟨#[]⟩, .slice Ag 0 cg, .string ⟨#[]⟩, .bool false] 33)) := (Below.refl _ _).alloc (Nat.le_refl _) _
                have ho10 := ho9.below hb10
                have HD1 := Lib.hid (cdone_any ho10)
                have HS1 := Lib.hid (cstatus_any ho10)
                have HL1 := Lib.hid (cleft_any ho10)
                simp only [List.length_nil] at HL1
                rw [HRD.out] at HD1
                have HB10 := Lib.hid (bt hb9 hb10)
                unfold rqVal nilRq emptyB
                clear hrow9 ho9 hf9 hb9 hb10 ho10 HNX HFD HBD HRD
                simp only [Option.getD_none, Option.isSome_none]
                generalize c1.status = st at *
                go_wp2_with fail
                refine HD1.out.mono ?_
                rintro e w11 ⟨rfl, rfl⟩
                go_wp2_with fail
                refine HS1.out.mono ?_
                rintro e w11 ⟨rfl, rfl⟩
                go_wp2_with fail
                refine HL1.out.mono ?_
                rintro e w11 ⟨rfl, rfl⟩
                go_wp2_with fail
                go_ret
                exact ⟨ret_bool (by simp), HB10.out⟩
          · obtain ⟨q, hqk, hql, hqc⟩ := HC2.out
            have hd1 : decide ((wk : Int) < 1) = true := decide_eq_true (by omega)
            obtain ⟨R, hRd, hR1, hR2⟩ := HRUN.out q hqk hql
            have hz : (mkT q.text).size ≤ 3000 := by rw [mkT_size]; exact sd_len _ hqk
            generalize mkT q.text = tx at *
            have HC := Lib.hid hqc
            clear HC1 HC2 HRUN
            have HA1 := Lib.hid fun w h => call_all (t1 ++ tx) w h (by rw [app_size]; omega) R (Lib.hid hR1)
            have HA2 := Lib.hid fun w h => call_all (t1 ++ tx ++ more) w h (by rw [app_size, app_size]; omega) R (Lib.hid hR2)
            have HRD := Lib.hid hRd; have HR1 := Lib.hid hR1
            have hsz : (t1 ++ tx).size ≤ 30000 := by rw [app_size]; omega
            clear hqk hql hqc hR1 hR2 hRd
            go_wp2_with fail
            refine HC.out.mono ?_
            rintro e w2 ⟨rfl, hb2⟩
            have HB2 := Lib.hid hb2
            clear hb2 HC d0 d1 d2 d3 d4 d5 d6 f5
            go_wp2_with fail
            refine (HA1.out _ (HM.out.below HB2.out)).mono ?_
            rintro e w3 ⟨v1, xs, rfl, hxs, hrq1, hb3⟩
            have HB3 := Lib.hid (bt HB2.out hb3)
            have hlx : xs.length = R.2.length := by rw [← hxs, List.length_map]
            obtain ⟨A1, c1, rfl, _⟩ := Rd.own hrq1.row
            clear hb3 hrq1 hxs HA1
            rw [hlx]
            clear hlx
            go_wp2_with fail
            refine (HA2.out _ (HM.out.below HB3.out)).mono ?_
            rintro e w4 ⟨v2, ys, rfl, hys, hrq2, hb4⟩
            have HB4 := Lib.hid (bt HB3.out hb4)
            have hly : ys.length = R.2.length := by rw [← hys, List.length_map]
            obtain ⟨A2, c2, rfl, _⟩ := Rd.own hrq2.row
            clear hb4 hrq2 hys HA2
            rw [hly]
            clear hly
            generalize R.2.length = nR at *
            generalize t1 ++ tx = T at *
            go_wp2_with fail
            refine (cnew_any _).mono ?_
            rintro e w5 ⟨rfl, ho5, hb5⟩
            go_wp2_with fail
            refine (cfeed_any ho5 rfl T (by simp; omega)).mono ?_
            rintro e w6 ⟨rfl, ho6, hf6⟩
            have hb6 : Below w4.heap.size w4 w6 := hb5.trans (hf6.low fun k hk => ⟨hk, by omega⟩)
            rw [List.nil_append] at ho6
            have h04 : 4 < w4.heap.size := (HM.out.below HB4.out).lt
            have HNX := Lib.hid (cnext_any ho6 okc_new (fun h => (by cases h)) (HM.out.below (bt HB4.out hb6)) h04 _ (Lib.hid rfl))
            have hfx := nexted_facts okc_new (rfl : nextC newC T.data.toList = _)
            have hnn := fun c2 l2 => next_none (c := newC) T.data.toList c2 l2
            generalize nextC newC T.data.toList = N at *
            rw [HR1.out] at hfx
            have HFX := Lib.hid hfx; have HNN := Lib.hid hnn; have HB6 := Lib.hid hb6
            clear ho5 hf6 hb5 ho6 hfx hnn hb6
            go_wp2_with fail
            refine HNX.out.mono ?_
            rintro e w7 ⟨fv, rfl, hrow7, ho7, hf7⟩
            obtain ⟨Af, cf, rfl, _⟩ := Rd.own hrow7
            have hb7 : Below w4.heap.size w4 w7 := HB6.out.trans (hf7.low fun k hk => ⟨hk, by omega⟩)
            have HDS : Hid (DS w (fun k => k < w4.heap.size) w4.heap.size R.1 w7.heap.size N.1.isSome (w7.alloc (.cells #[.string (N.1.getD nilRq).m, .string (N.1.getD nilRq).t, .slice Af (N.1.getD nilRq).fs.length cf, .string (N.1.getD nilRq).body, .bool (N.1.getD nilRq).close] 33)) N.2.1 N.2.2) := by
              have hb8 : Below w7.heap.size w7 (w7.alloc (.cells #[.string (N.1.getD nilRq).m, .string (N.1.getD nilRq).t, .slice Af (N.1.getD nilRq).fs.length cf, .string (N.1.getD nilRq).body, .bool (N.1.getD nilRq).close] 33)) := (Below.refl _ _).alloc (Nat.le_refl _) _
              obtain ⟨k1, k2, k3, k4, k5⟩ := HFX.out
              refine ⟨⟨_, _, _, _, _, _, _, heap_alloc_new w7 _⟩, ho7.below hb8, k1, k2, bt HB4.out (bt hb7 hb8), fun hs => ?_, fun hs => ?_⟩
              · rw [(k3 hs).1]
              · refine ⟨by rw [k4 hs], ?_⟩
                have hn := HNN.out
                rcases N with ⟨o, c9, l9⟩
                cases o with
                | some r => cases hs
                | none => exact (hn c9 l9 rfl).2
            unfold rqVal
            clear hrow7 ho7 hf7 hb7 HFX HNN HNX HB6 HR1
            generalize N.1.getD nilRq = o0 at *
            generalize N.1.isSome = ok0 at *
            generalize N.2.1 = c0 at *
            generalize N.2.2 = l0 at *
            obtain ⟨Rc, Rl⟩ := R
            simp only at *
            go_wp2_with fail
            go_loopw [16, 17] (fun v16 v17 wr => ∃ (rb : Nat) (ok : Bool) (c1 : Cst) (l1 : List UInt8), v16 = .pointer (some ⟨rb, 0, none⟩) ∧ v17 = .bool ok ∧ Hid (DS w (fun k => k < w4.heap.size) w4.heap.size Rc rb ok wr c1 l1)) (fun _ v17 wr => waitLen wr w4.heap.size * 2 + okLen v17)
            case atStart => exact ⟨_, _, _, _, rfl, rfl, HDS⟩
            case round =>
              obtain ⟨rb, ok, c1, l1, rfl, rfl, HD⟩ := hrel
              clear HDS
              cases ok with
              | true =>
                obtain ⟨x0, x1, x3, Ax, nx, cx, x4, hblk⟩ := HD.out.blk
                have e0 := blk_cell hblk 0; have e1 := blk_cell hblk 1; have e2 := blk_cell hblk 2; have e3 := blk_cell hblk 3; have e4 := blk_cell hblk 4
                simp at e0 e1 e2 e3 e4
                have HNX := Lib.hid (HD.out.call HM.out h04 #[.string x0, .string x1, .slice Ax nx cx, .string x3, .bool x4] _ rfl)
                have HNE := Lib.hid fun w3 => HD.out.next (w3 := w3) (fun k hk => Nat.lt_of_lt_of_le hk HB4.out.size) x0 x1 x3 Ax nx cx x4 _ rfl
                have HWL := Lib.hid (co_wait HD.out.co)
                have HLX := Lib.hid (nexted_facts HD.out.okc (rfl : nextC c1 l1 = _)).2.2.2.2
                generalize nextC c1 l1 = N2 at *
                clear hblk HD
                go_wp2_with fail
                refine HNX.out.mono ?_
                rintro e w9 ⟨fv9, rfl, hrow9, ho9, hf9⟩
                have HD2 := Lib.hid (HNE.out w9 ho9 hf9)
                obtain ⟨Ag, cg, rfl, _⟩ := Rd.own hrow9
                unfold rqVal
                clear hrow9 ho9 hf9 HNE HNX e0 e1 e2 e3 e4
                generalize N2.1.getD nilRq = o9 at *
                generalize N2.1.isSome = ok9 at *
                generalize N2.2.1 = c9 at *
                generalize N2.2.2 = l9 at *
                go_wp2_with fail
                go_roundw
                case rel => exact ⟨_, _, _, _, rfl, rfl, HD2⟩
                case measure =>
                  have e1 := co_wait HD2.out.co
                  rw [e1, HWL.out]
                  have := HLX.out
                  cases ok9 <;> simp [okLen] at this ⊢ <;> omega
              | false =>
                obtain ⟨rfl, rfl⟩ := HD.out.last rfl
                have HFD := Lib.hid (cfeed_done HD.out.co HRD.out more)
                have HNX := Lib.hid (cnext_any HD.out.co HD.out.okc HD.out.dl (HM.out.below HD.out.bel) h04 (none, c1, []) (Lib.hid rfl))
                have HBD := Lib.hid HD.out.bel
                have hwl : w.heap.size ≤ w4.heap.size := HB4.out.size
                clear HD
                go_wp2_with fail
                refine HFD.out.mono ?_
                rintro e w8 ⟨rfl, rfl⟩
                go_wp2_with fail
                refine HNX.out.mono ?_
                rintro e w9 ⟨fv9, rfl, hrow9, ho9, hf9⟩
                obtain ⟨Ag, cg, rfl, _⟩ := Rd.own hrow9
                have hb9 : Below w.heap.size w w9 := HBD.out.trans (hf9.low fun k hk => ⟨by omega, by omega⟩)
                have hb10 : Below w9.heap.size w9 (w9.alloc (.cells #[.string ⟨#[]⟩, .string ⟨#[]⟩, .slice Ag 0 cg, .string ⟨#[]⟩, .bool false] 33)) := (Below.refl _ _).alloc (Nat.le_refl _) _
                have ho10 := ho9.below hb10
                have HD1 := Lib.hid (cdone_any ho10)
                have HS1 := Lib.hid (cstatus_any ho10)
                have HL1 := Lib.hid (cleft_any ho10)
                simp only [List.length_nil] at HL1
                rw [HRD.out] at HD1
                have HB10 := Lib.hid (bt hb9 hb10)
                unfold rqVal nilRq emptyB
                clear hrow9 ho9 hf9 hb9 hb10 ho10 HNX HFD HBD HRD
                simp only [Option.getD_none, Option.isSome_none]
                generalize c1.status = st at *
                go_wp2_with fail
                refine HD1.out.mono ?_
                rintro e w11 ⟨rfl, rfl⟩
                go_wp2_with fail
                refine HS1.out.mono ?_
                rintro e w11 ⟨rfl, rfl⟩
                go_wp2_with fail
                refine HL1.out.mono ?_
                rintro e w11 ⟨rfl, rfl⟩
                go_wp2_with fail
                go_ret
                exact ⟨ret_bool (by simp), HB10.out⟩
          · obtain ⟨q, hqk, hql, hqc⟩ := HC2.out
            have hd1 : decide ((wk : Int) < 1) = false := decide_eq_false (by omega)
            have hd2 : decide ((3 : Int) < (wk : Int)) = true := decide_eq_true (by omega)
            obtain ⟨R, hRd, hR1, hR2⟩ := HRUN.out q hqk hql
            have hz : (mkT q.text).size ≤ 3000 := by rw [mkT_size]; exact sd_len _ hqk
            generalize mkT q.text = tx at *
            have HC := Lib.hid hqc
            clear HC1 HC2 HRUN
            have HA1 := Lib.hid fun w h => call_all (t1 ++ tx) w h (by rw [app_size]; omega) R (Lib.hid hR1)
            have HA2 := Lib.hid fun w h => call_all (t1 ++ tx ++ more) w h (by rw [app_size, app_size]; omega) R (Lib.hid hR2)
            have HRD := Lib.hid hRd; have HR1 := Lib.hid hR1
            have hsz : (t1 ++ tx).size ≤ 30000 := by rw [app_size]; omega
            clear hqk hql hqc hR1 hR2 hRd
            go_wp2_with fail
            refine HC.out.mono ?_
            rintro e w2 ⟨rfl, hb2⟩
            have HB2 := Lib.hid hb2
            clear hb2 HC d0 d1 d2 d3 d4 d5 d6 f5
            go_wp2_with fail
            refine (HA1.out _ (HM.out.below HB2.out)).mono ?_
            rintro e w3 ⟨v1, xs, rfl, hxs, hrq1, hb3⟩
            have HB3 := Lib.hid (bt HB2.out hb3)
            have hlx : xs.length = R.2.length := by rw [← hxs, List.length_map]
            obtain ⟨A1, c1, rfl, _⟩ := Rd.own hrq1.row
            clear hb3 hrq1 hxs HA1
            rw [hlx]
            clear hlx
            go_wp2_with fail
            refine (HA2.out _ (HM.out.below HB3.out)).mono ?_
            rintro e w4 ⟨v2, ys, rfl, hys, hrq2, hb4⟩
            have HB4 := Lib.hid (bt HB3.out hb4)
            have hly : ys.length = R.2.length := by rw [← hys, List.length_map]
            obtain ⟨A2, c2, rfl, _⟩ := Rd.own hrq2.row
            clear hb4 hrq2 hys HA2
            rw [hly]
            clear hly
            generalize R.2.length = nR at *
            generalize t1 ++ tx = T at *
            go_wp2_with fail
            refine (cnew_any _).mono ?_
            rintro e w5 ⟨rfl, ho5, hb5⟩
            go_wp2_with fail
            refine (cfeed_any ho5 rfl T (by simp; omega)).mono ?_
            rintro e w6 ⟨rfl, ho6, hf6⟩
            have hb6 : Below w4.heap.size w4 w6 := hb5.trans (hf6.low fun k hk => ⟨hk, by omega⟩)
            rw [List.nil_append] at ho6
            have h04 : 4 < w4.heap.size := (HM.out.below HB4.out).lt
            have HNX := Lib.hid (cnext_any ho6 okc_new (fun h => (by cases h)) (HM.out.below (bt HB4.out hb6)) h04 _ (Lib.hid rfl))
            have hfx := nexted_facts okc_new (rfl : nextC newC T.data.toList = _)
            have hnn := fun c2 l2 => next_none (c := newC) T.data.toList c2 l2
            generalize nextC newC T.data.toList = N at *
            rw [HR1.out] at hfx
            have HFX := Lib.hid hfx; have HNN := Lib.hid hnn; have HB6 := Lib.hid hb6
            clear ho5 hf6 hb5 ho6 hfx hnn hb6
            go_wp2_with fail
            refine HNX.out.mono ?_
            rintro e w7 ⟨fv, rfl, hrow7, ho7, hf7⟩
            obtain ⟨Af, cf, rfl, _⟩ := Rd.own hrow7
            have hb7 : Below w4.heap.size w4 w7 := HB6.out.trans (hf7.low fun k hk => ⟨hk, by omega⟩)
            have HDS : Hid (DS w (fun k => k < w4.heap.size) w4.heap.size R.1 w7.heap.size N.1.isSome (w7.alloc (.cells #[.string (N.1.getD nilRq).m, .string (N.1.getD nilRq).t, .slice Af (N.1.getD nilRq).fs.length cf, .string (N.1.getD nilRq).body, .bool (N.1.getD nilRq).close] 33)) N.2.1 N.2.2) := by
              have hb8 : Below w7.heap.size w7 (w7.alloc (.cells #[.string (N.1.getD nilRq).m, .string (N.1.getD nilRq).t, .slice Af (N.1.getD nilRq).fs.length cf, .string (N.1.getD nilRq).body, .bool (N.1.getD nilRq).close] 33)) := (Below.refl _ _).alloc (Nat.le_refl _) _
              obtain ⟨k1, k2, k3, k4, k5⟩ := HFX.out
              refine ⟨⟨_, _, _, _, _, _, _, heap_alloc_new w7 _⟩, ho7.below hb8, k1, k2, bt HB4.out (bt hb7 hb8), fun hs => ?_, fun hs => ?_⟩
              · rw [(k3 hs).1]
              · refine ⟨by rw [k4 hs], ?_⟩
                have hn := HNN.out
                rcases N with ⟨o, c9, l9⟩
                cases o with
                | some r => cases hs
                | none => exact (hn c9 l9 rfl).2
            unfold rqVal
            clear hrow7 ho7 hf7 hb7 HFX HNN HNX HB6 HR1
            generalize N.1.getD nilRq = o0 at *
            generalize N.1.isSome = ok0 at *
            generalize N.2.1 = c0 at *
            generalize N.2.2 = l0 at *
            obtain ⟨Rc, Rl⟩ := R
            simp only at *
            go_wp2_with fail
            go_loopw [16, 17] (fun v16 v17 wr => ∃ (rb : Nat) (ok : Bool) (c1 : Cst) (l1 : List UInt8), v16 = .pointer (some ⟨rb, 0, none⟩) ∧ v17 = .bool ok ∧ Hid (DS w (fun k => k < w4.heap.size) w4.heap.size Rc rb ok wr c1 l1)) (fun _ v17 wr => waitLen wr w4.heap.size * 2 + okLen v17)
            case atStart => exact ⟨_, _, _, _, rfl, rfl, HDS⟩
            case round =>
              obtain ⟨rb, ok, c1, l1, rfl, rfl, HD⟩ := hrel
              clear HDS
              cases ok with
              | true =>
                obtain ⟨x0, x1, x3, Ax, nx, cx, x4, hblk⟩ := HD.out.blk
                have e0 := blk_cell hblk 0; have e1 := blk_cell hblk 1; have e2 := blk_cell hblk 2; have e3 := blk_cell hblk 3; have e4 := blk_cell hblk 4
                simp at e0 e1 e2 e3 e4
                have HNX := Lib.hid (HD.out.call HM.out h04 #[.string x0, .string x1, .slice Ax nx cx, .string x3, .bool x4] _ rfl)
                have HNE := Lib.hid fun w3 => HD.out.next (w3 := w3) (fun k hk => Nat.lt_of_lt_of_le hk HB4.out.size) x0 x1 x3 Ax nx cx x4 _ rfl
                have HWL := Lib.hid (co_wait HD.out.co)
                have HLX := Lib.hid (nexted_facts HD.out.okc (rfl : nextC c1 l1 = _)).2.2.2.2
                generalize nextC c1 l1 = N2 at *
                clear hblk HD
                go_wp2_with fail
                refine HNX.out.mono ?_
                rintro e w9 ⟨fv9, rfl, hrow9, ho9, hf9⟩
                have HD2 := Lib.hid (HNE.out w9 ho9 hf9)
                obtain ⟨Ag, cg, rfl, _⟩ := Rd.own hrow9
                unfold rqVal
                clear hrow9 ho9 hf9 HNE HNX e0 e1 e2 e3 e4
                generalize N2.1.getD nilRq = o9 at *
                generalize N2.1.isSome = ok9 at *
                generalize N2.2.1 = c9 at *
                generalize N2.2.2 = l9 at *
                go_wp2_with fail
                go_roundw
                case rel => exact ⟨_, _, _, _, rfl, rfl, HD2⟩
                case measure =>
                  have e1 := co_wait HD2.out.co
                  rw [e1, HWL.out]
                  have := HLX.out
                  cases ok9 <;> simp [okLen] at this ⊢ <;> omega
              | false =>
                obtain ⟨rfl, rfl⟩ := HD.out.last rfl
                have HFD := Lib.hid (cfeed_done HD.out.co HRD.out more)
                have HNX := Lib.hid (cnext_any HD.out.co HD.out.okc HD.out.dl (HM.out.below HD.out.bel) h04 (none, c1, []) (Lib.hid rfl))
                have HBD := Lib.hid HD.out.bel
                have hwl : w.heap.size ≤ w4.heap.size := HB4.out.size
                clear HD
                go_wp2_with fail
                refine HFD.out.mono ?_
                rintro e w8 ⟨rfl, rfl⟩
                go_wp2_with fail
                refine HNX.out.mono ?_
                rintro e w9 ⟨fv9, rfl, hrow9, ho9, hf9⟩
                obtain ⟨Ag, cg, rfl, _⟩ := Rd.own hrow9
                have hb9 : Below w.heap.size w w9 := HBD.out.trans (hf9.low fun k hk => ⟨by omega, by omega⟩)
                have hb10 : Below w9.heap.size w9 (w9.alloc (.cells #[.string ⟨#[]⟩, .string ⟨#[]⟩, .slice Ag 0 cg, .string ⟨#[]⟩, .bool false] 33)) := (Below.refl _ _).alloc (Nat.le_refl _) _
                have ho10 := ho9.below hb10
                have HD1 := Lib.hid (cdone_any ho10)
                have HS1 := Lib.hid (cstatus_any ho10)
                have HL1 := Lib.hid (cleft_any ho10)
                simp only [List.length_nil] at HL1
                rw [HRD.out] at HD1
                have HB10 := Lib.hid (bt hb9 hb10)
                unfold rqVal nilRq emptyB
                clear hrow9 ho9 hf9 hb9 hb10 ho10 HNX HFD HBD HRD
                simp only [Option.getD_none, Option.isSome_none]
                generalize c1.status = st at *
                go_wp2_with fail
                refine HD1.out.mono ?_
                rintro e w11 ⟨rfl, rfl⟩
                go_wp2_with fail
                refine HS1.out.mono ?_
                rintro e w11 ⟨rfl, rfl⟩
                go_wp2_with fail
                refine HL1.out.mono ?_
                rintro e w11 ⟨rfl, rfl⟩
                go_wp2_with fail
                go_ret
                exact ⟨ret_bool (by simp), HB10.out⟩
end Go.Proofs.YtkjlbddaglcooaaGreatDoor
