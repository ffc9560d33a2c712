/- What is found from a node on. -/
import Derived.Test.YtgfjkpfjajjidaaDoorTrBeh
import Derived.Test.YtgfjkpfjajjidaaDoorPtPat
import Derived.Deep.RegionHeld3
namespace Go.Proofs.YtgfjkpfjajjidaaDoor
open Go.RowKit Pl
attribute [local go_sem ↓] Go.wp_at_zero Go.wp_at_succ

/-- Ends that were found: a row of the call's own. -/
def Fnd (w : World) (base : Nat) (v : Value) (fs : List EnR) (B : Nat) : Prop := w.ownsRow base 67 3 v fs.length (enCells fs) ∧ ∀ x ∈ fs, EnAt w B x

theorem enAt_one {w : World} {B : Nat} {l : List EnR} (h : ∀ x ∈ l, EnAt w B x) : ∀ u ∈ enCells l, u.oneCell' = true :=
  en_one l fun x hx => by
    obtain ⟨A, c, e, _⟩ := h x hx
    exact ⟨A, _, c, e⟩

set_option maxRecDepth 100000 in
set_option maxHeartbeats 4000000 in
theorem find_end (B base : Nat) (p : Option Addr) (L : List It) (fs : List EnR) (fv : Value) (A : Option Addr) (c : Nat) (w : World) (hBb : B ≤ base) (hbw : base ≤ w.heap.size) (hn : Nd w B p L) (hf : Fnd w base fv fs B) (hl : fs.length + L.length ≤ 1000000) :
    Calls Tryd.prog 21 #[.pointer p, fv, .slice A 0 c] w fun e w' => ∃ v fs', e = .returned v ∧ Fnd w' base v fs' B ∧ fs'.map (·.1) = fs.map (·.1) ++ endsL L ∧ Below base w w' := by
  obtain ⟨i0, hi, hz0, hz1, hz2⟩ := info_parts Tryd.info67
  have HZ := Lib.hid (And.intro hz0 (And.intro hz1 hz2))
  clear hz0 hz1 hz2
  have HF := Lib.hid hf
  obtain ⟨fa, fc, rfl, hfc, _⟩ := Rd.ownc hf.1
  rcases hn.opened with ⟨rfl, rfl⟩ | ⟨g, EA, WA, en, wn, ec, wc, pv, rv, es, ws, rfl, hg, c0, c1, c2, c3, hnn⟩
  · clear hn hf
    go_enter Tryd.func21, Tryd.ntmps21
    go_wp2_with fail
    go_ret
    exact ⟨_, fs, rfl, HF.out, by simp [endsL], Below.refl _ _⟩
  · have HN := Lib.hid hnn
    have HW := Lib.hid (And.intro hBb hbw)
    have hgs : g < w.heap.size := World.block_lt_of_cell? _ _ c0
    have hen : en ≤ L.length := by
      have h1 := congrArg List.length hnn.heL
      have h2 : (endsL L).length ≤ L.length := List.length_filterMap_le _ _
      rw [List.length_map] at h1
      have := hnn.hen
      omega
    cases EA with
    | none =>
      have h0 := hnn.he.1.no
      have he0 : en = 0 := h0.1
      have hes : es = [] := by have := hnn.hen; exact List.length_eq_zero_iff.1 (by omega)
      have HE : Hid (endsL L = []) := by show _ = _; rw [← hnn.heL, hes]; rfl
      subst he0
      clear hn hf hnn hl h0 hes hen c1 c2 c3
      cases fa
      all_goals
        go_enter Tryd.func21, Tryd.ntmps21
        go_wp2_with fail
        go_ret
        exact ⟨_, fs, rfl, HF.out, by rw [HE.out]; simp, Below.refl _ _⟩
    | some a =>
      have HLN : Hid ((enCells es).length = en * 3) := by show _ = _; rw [en_len, hnn.hen]
      have HCE : Hid (∀ j u, (enCells es)[j]? = some u → w.cell? (a.add j) = some u) := fun j u hu => by
        have hne : en ≠ 0 := by
          intro e
          have h1 := hnn.hen
          have : es = [] := List.length_eq_zero_iff.1 (by omega)
          rw [this] at hu; cases hu
        obtain ⟨a', e, _, h⟩ := hnn.he.1.2 hne
        cases e; exact h j u hu
      have HO : Hid (∀ u ∈ enCells es, u.oneCell' = true) := enAt_one hnn.hee
      have H63 : Hid (fs.length + en ≤ maxLen) := by show _ ≤ _; unfold maxLen; omega
      have HBY : Hid ((fs.length + en) * 56 ≤ 140737488355328) := by show _ ≤ _; omega
      clear hn hf hnn hl hen c1 c2 c3
      go_enter Tryd.func21, Tryd.ntmps21
      go_wp2_with (at_builtin; refine wpList_append_own_at _ rfl _ _ 68 rfl base 67 i0 (.agg #[.string ⟨#[]⟩, .string ⟨#[]⟩, .slice none 0 0]) 3 56 Tryd.underlying68 hi HZ.out.1 HZ.out.2.1 HZ.out.2.2 rfl (by decide) (.slice fa fs.length fc) fs.length (enCells fs) rfl HF.out.1 a en ec (enCells es) rfl HLN.out HCE.out HO.out H63.out HBY.out HW.out.2 ?_)
      intro v7 w7 hown7 hgr7 _ _
      have hb7 : Below base w w7 := (Below.refl _ _).grown hgr7 HW.out.2 (fun k hk => (HF.out.1.lt k hk).1)
      obtain ⟨A7, c7, rfl, _⟩ := Rd.own hown7
      have HF7 : Hid (Fnd w7 base (.slice A7 (fs.length + en) c7) (fs ++ es) B) := by
        refine ⟨?_, fun x hx => ?_⟩
        · rw [en_app, List.length_append, ← HN.out.hen]; exact hown7
        · rcases List.mem_append.1 hx with hx | hx
          · exact (HF.out.2 x hx).below hb7 HW.out.1
          · exact (HN.out.hee x hx).below hb7 HW.out.1
      have HB7 := Lib.hid hb7
      clear hown7 hgr7 hb7
      go_wp2_with fail
      go_ret
      exact ⟨_, fs ++ es, rfl, HF7.out, by rw [List.map_append, HN.out.heL], HB7.out⟩

theorem sub_len (x : Seg) : ∀ L : List It, (wsub x L).length + ((ksub 1 L).length + (ksub 2 L).length) ≤ L.length
  | [] => Nat.le_refl _
  | i :: L => by
    have ih := sub_len x L
    obtain ⟨r, e⟩ := i
    cases r with
    | nil =>
      have e1 : wsub x ((([] : List Seg), e) :: L) = wsub x L := rfl
      have e2 : ∀ k, ksub k ((([] : List Seg), e) :: L) = ksub k L := fun _ => rfl
      rw [e1, e2, e2, List.length_cons]; omega
    | cons p ps =>
      have h0 : (wsub x ((p :: ps, e) :: L)).length ≤ (if kd p = 0 then 1 else 0) + (wsub x L).length := by
        simp only [wsub, List.filterMap_cons, wgo]
        by_cases h : kd p = 0
        · rw [if_pos h]; split <;> simp_all <;> omega
        · rw [if_neg h]; simp [h]
      have h1 : ∀ k, (ksub k ((p :: ps, e) :: L)).length ≤ (if kd p = k then 1 else 0) + (ksub k L).length := fun k => by
        simp only [ksub, List.filterMap_cons, kgo]
        by_cases h : kd p = k
        · rw [if_pos h, if_pos h]; simp; omega
        · rw [if_neg h, if_neg h]; simp
      have h2 := h1 1
      have h3 := h1 2
      rw [List.length_cons]
      rcases kd_cases p with k | k | k <;> simp [k] at h0 h2 h3 <;> omega
theorem find_len : ∀ (xs : List Seg) (L : List It), (findL L xs).length ≤ L.length
  | [], L => List.length_filterMap_le _ _
  | x :: xs, L => by
    rw [findL, List.length_append, List.length_append]
    have h1 := find_len xs (wsub x L)
    have h2 := find_len xs (ksub 1 L)
    have h3 : (endsL (ksub 2 L)).length ≤ (ksub 2 L).length := List.length_filterMap_le _ _
    have h4 := sub_len x L
    split
    · simp; omega
    · omega

theorem rd_tail {w : World} {B q : Nat} {a : Addr} {x : Seg} {xs : List Seg} (h : Rd w B 1 (some a) (q + 1) ((x :: xs).map strV)) (ha : a.block < B) : Rd w B 1 (some ⟨a.block, a.off + 1, none⟩) q (xs.map strV) := by
  obtain ⟨h1, h2⟩ := h
  refine ⟨by simpa using h1, fun _ => ⟨_, rfl, ha, fun j u hu => ?_⟩⟩
  obtain ⟨a', e, _, hc⟩ := h2 (by omega)
  cases e
  have := hc (j + 1) u (by simpa using hu)
  have e2 : (⟨a.block, a.off + 1, none⟩ : Addr).add j = a.add (j + 1) := by
    unfold Addr.add
    by_cases hj : j = 0
    · simp [hj]
    · simp [hj, Nat.add_assoc, Nat.add_comm 1 j]
  rw [e2]; exact this
/-- Found so far, and behind one more. -/
def Fd (B base : Nat) (fs : List EnR) (R : List En) (w : World) (e : Ending) (w' : World) : Prop := ∃ v fs', e = .returned v ∧ Fnd w' base v fs' B ∧ fs'.map (·.1) = fs.map (·.1) ++ R ∧ Below base w w'
theorem Fnd.on {w w' : World} {base B : Nat} {v : Value} {fs : List EnR} (h : Fnd w base v fs B) (hb : Below w.heap.size w w') (hB : B ≤ w.heap.size) : Fnd w' base v fs B :=
  ⟨own_below h.1 hb, fun x hx => (h.2 x hx).below hb hB⟩
theorem find_sum {fs f6 f7 f8 : List EnR} {L : List It} {x : Seg} {xs : List Seg} (h6 : f6.map (·.1) = fs.map (·.1) ++ findL (wsub x L) xs) (h7 : f7.map (·.1) = f6.map (·.1) ++ (if x = [] then [] else findL (ksub 1 L) xs)) (h8 : f8.map (·.1) = f7.map (·.1) ++ endsL (ksub 2 L)) : f8.map (·.1) = fs.map (·.1) ++ findL L (x :: xs) := by
  rw [h8, h7, h6, findL]; simp only [List.append_assoc]
theorem len_of {f g : List EnR} {R : List En} (h : f.map (·.1) = g.map (·.1) ++ R) : f.length = g.length + R.length := by
  have := congrArg List.length h
  simpa using this

set_option maxRecDepth 100000 in
set_option maxHeartbeats 4000000 in
theorem find_any (B base : Nat) : ∀ (xs : List Seg) (p : Option Addr) (L : List It) (fs : List EnR) (fv : Value) (A : Option Addr) (c : Nat) (w : World), B ≤ base → base ≤ w.heap.size → Nd w B p L → Fnd w base fv fs B → fs.length + L.length ≤ 1000000 → Rd w B 1 A xs.length (xs.map strV) → xs.length ≤ c → xs.length ≤ 100000 →
    Calls Tryd.prog 21 #[.pointer p, fv, .slice A xs.length c] w (Fd B base fs (findL L xs) w)
  | [], p, L, fs, fv, A, c, w, hBb, hbw, hn, hf, hl, hr, hc, hx => find_end B base p L fs fv A c w hBb hbw hn hf hl
  | x :: xs, p, L, fs, fv, A, c, w, hBb, hbw, hn, hf, hl, hr, hc, hx => by
    have HF := Lib.hid hf
    obtain ⟨fa, fc, rfl, hfc, _⟩ := Rd.ownc hf.1
    rcases hn.opened with ⟨rfl, rfl⟩ | ⟨g, EA, WA, en, wn, ec, wc, pv, rv, es, ws, rfl, hg, c0, c1, c2, c3, hnn⟩
    · clear hn hf hr
      go_enter Tryd.func21, Tryd.ntmps21
      go_wp2_with fail
      go_ret
      exact ⟨_, fs, rfl, HF.out, by rw [find_nil]; simp, Below.refl _ _⟩
    · have HN := Lib.hid hnn
      have HW := Lib.hid (And.intro hBb hbw)
      have HL := Lib.hid hl
      have hgs : g < w.heap.size := World.block_lt_of_cell? _ _ c0
      obtain ⟨a, rfl, hab, hcs⟩ := hr.2 (by simp)
      have ha0 : w.cell? a = some (.string (mkB x)) := by have := hcs 0 _ rfl; rwa [show a.add 0 = a from by unfold Addr.add; rw [if_pos rfl]] at this
      have has : a.block < w.heap.size := World.block_lt_of_cell? _ _ ha0
      have hwm : wn ≤ 1000000 := by
        have := hnn.hwl
        have := hnn.hwm
        omega
      have HWA := Lib.hid (word_any g WA wn wc ws (mkB x) w.drew c1 ((hnn.hw.1.below (Below.refl _ w) (by omega : B ≤ w.heap.size)).wide (by omega : B ≤ w.heap.size)) hnn.hwm hwm)
      rw [mkB_data] at HWA
      have HSL := Lib.hid (sub_len x L)
      have HFL := Lib.hid (fun K => find_len xs K)
      have HXE : Hid (((mkB x).toList == []) = decide (x = [])) := by
        show _ = _
        rw [eq_list, mkB_data]
      have HTL := Lib.hid (rd_tail (q := xs.length) hr hab)
      have hc' : xs.length + 1 ≤ c := hc
      -- the walks of the rest, from whatever world behind this one
      have HI := Lib.hid (fun (A' : Option Addr) (c' : Nat) (hA : (xs.length = 0 ∧ True) ∨ (A' = some ⟨a.block, a.off + 1, none⟩)) (hc2 : xs.length ≤ c') (w5 : World) (hb5 : Below base w w5) (p' : Option Addr) (K : List It) (f : List EnR) (v : Value) (hn5 : Nd w B p' K) (hf5 : Fnd w5 base v f B) (hl5 : f.length + K.length ≤ 1000000) =>
        find_any B base xs p' K f v A' c' w5 hBb (Nat.le_trans hbw hb5.size) (hn5.keep hb5 hBb) hf5 hl5 (by
          rcases hA with h0 | h0
          · have : xs = [] := List.length_eq_zero_iff.1 h0.1
            subst this
            exact ⟨rfl, fun h => absurd rfl h⟩
          · rw [h0]; exact HTL.out.below hb5 hBb) hc2 (by simp at hx; omega))
      have HEND := Lib.hid (fun (w5 : World) (hb5 : Below base w w5) (p' : Option Addr) (K : List It) (f : List EnR) (v : Value) (hn5 : Nd w B p' K) (hf5 : Fnd w5 base v f B) (hl5 : f.length + K.length ≤ 1000000) =>
        find_end B base p' K f v none 0 w5 hBb (Nat.le_trans hbw hb5.size) (hn5.keep hb5 hBb) hf5 hl5)
      have HGO := Lib.hid (go_nd hnn.br x)
      have HCL := Lib.hid (fun w5 (h : Below base w w5) => And.intro ((h.cell (p := a) (by omega)).trans ha0) (And.intro ((h.cell (p := ⟨g, 2, none⟩) (by show g < _; omega)).trans c2) ((h.cell (p := ⟨g, 3, none⟩) (by show g < _; omega)).trans c3)))
      simp only [List.length_cons] at hc hx ⊢
      have hq1 : (1 : Int) ≤ ((xs.length : Nat) : Int) + 1 := by omega
      have hq2 : ((xs.length : Nat) : Int) + 1 ≤ (c : Int) := by omega
      have hq3 : (0 : Int) < ((xs.length : Nat) : Int) + 1 := by omega
      generalize hxb : mkB x = xb at *
      clear hn hf hr hcs hnn HTL hxb
      generalize hR0 : findL (wsub x L) xs = R0 at *
      generalize hR1 : findL (ksub 1 L) xs = R1 at *
      have HR := Lib.hid (And.intro hR0 hR1)
      clear hR0 hR1
      generalize hq : xs.length = q at *
      have HQ : Hid (xs.length = q) := hq
      clear hq
      by_cases hc1 : c = 1
      · have hq0 : q = 0 := by omega
        subst hq0 hc1
        have HI1 := Lib.hid (fun w5 h f v hf hl => HI.out (some a) 0 (.inl ⟨rfl, trivial⟩) (Nat.le_refl _) w5 h (goL ws x) (wsub x L) f v HGO.out hf hl)
        have HI2 := Lib.hid (fun w5 h f v hf hl => HI.out (some a) 0 (.inl ⟨rfl, trivial⟩) (Nat.le_refl _) w5 h pv (ksub 1 L) f v HN.out.hp hf hl)
        have HI3 := Lib.hid (fun w5 h f v hf hl => HEND.out w5 h rv (ksub 2 L) f v HN.out.hr hf hl)
        rw [HR.out.1] at HI1
        rw [HR.out.2] at HI2
        have HS0 : Hid (fs.length + (wsub x L).length ≤ 1000000) := by have := HSL.out; show _ ≤ _; omega
        clear HI HEND HGO
        go_enter Tryd.func21, Tryd.ntmps21
        go_wp2_with fail
        go_region_held3 (fun W => W.cell? a = some (.string xb)) (first | (exact (HCL.out _ (hd5.trans hb6)).1) | (exact (hb5.cell (p := a) has).trans ha0) | (exact ha0)) ((first
          | (have hd5 : Below base w w5 := ((Below.refl _ _).drew.trans hb5).mono HW.out.2
             go_at_call 21; refine (HI1.out w5 hd5 fs _ (HF.out.on ((Below.refl _ _).drew.trans hb5) (Nat.le_trans HW.out.1 HW.out.2)) HS0.out).mono ?_; rintro e w6 ⟨v6, f6, rfl, hf6, hm6, hb6⟩)
          | (go_at_call 35; refine HWA.out.mono ?_; rintro e w5 ⟨rfl, hb5⟩)))
        have hB6 : Below base w w6 := hd5.trans hb6
        obtain ⟨s0, s1, s2⟩ := HCL.out _ hB6
        obtain ⟨a6, d6, rfl, _⟩ := Rd.own hf6.1
        have HB6 := Lib.hid hB6
        have HM6 := Lib.hid hm6
        have HF6 := Lib.hid hf6
        have HL6 := Lib.hid (len_of hm6)
        clear hd5 hb6 hb5 hB6 hm6 hf6
        have hxe := HXE.out
        have HS1 : Hid (f6.length + (ksub 1 L).length ≤ 1000000) := by
          show _ ≤ _
          have hl6 := HL6.out
          have h1 := HFL.out (wsub x L)
          rw [HR.out.1] at h1
          have h2 := HSL.out
          have h3 := HL.out
          omega
        by_cases hx0 : x = []
        · rw [decide_eq_true hx0] at hxe
          have HX0 := Lib.hid hx0
          have HS2 : Hid (f6.length + (ksub 2 L).length ≤ 1000000) := by
            have hl6 := HL6.out
            have h1 := HFL.out (wsub x L)
            rw [HR.out.1] at h1
            have h2 := HSL.out
            have h3 := HL.out
            show _ ≤ _; omega
          clear hx0
          go_wp2_with fail
          refine (HI3.out w6 HB6.out f6 _ HF6.out HS2.out).mono ?_
          rintro e w8 ⟨v8, f8, rfl, hf8, hm8, hb8⟩
          obtain ⟨a8, d8, rfl, _⟩ := Rd.own hf8.1
          have HF8 := Lib.hid hf8
          have HB8 := Lib.hid hb8
          have HM8 := Lib.hid (find_sum (x := x) (xs := xs) (by rw [HR.out.1]; exact HM6.out) (by rw [if_pos HX0.out, List.append_nil]) hm8)
          clear hf8 hb8 hm8
          go_wp2_with fail
          go_ret
          exact ⟨_, f8, rfl, HF8.out, HM8.out, HB6.out.trans HB8.out⟩
        · rw [decide_eq_false hx0] at hxe
          have HX0 := Lib.hid hx0
          clear hx0
          go_wp2_with fail
          go_region_held3 (fun W => W.cell? ⟨g, 2, none⟩ = some (.pointer pv)) (first | (exact (HCL.out _ (HB6.out.drew.trans hb7)).2.1) | (exact (HCL.out _ HB6.out.drew).2.1)) ((first
            | (go_at_call 21; refine (HI2.out w6.drew HB6.out.drew f6 _ (HF6.out.on (Below.refl _ _).drew (Nat.le_trans HW.out.1 (Nat.le_trans HW.out.2 HB6.out.size))) HS1.out).mono ?_; rintro e w7 ⟨v7, f7, rfl, hf7, hm7, hb7⟩)))
          have hB7 : Below base w w7 := HB6.out.drew.trans hb7
          obtain ⟨t0, t1, t2⟩ := HCL.out _ hB7
          obtain ⟨a7, d7, rfl, _⟩ := Rd.own hf7.1
          have HL7 := Lib.hid (len_of hm7)
          have HS2 : Hid (f7.length + (ksub 2 L).length ≤ 1000000) := by
            have hl6 := HL6.out
            have hl7 := HL7.out
            have h1 := HFL.out (wsub x L)
            rw [HR.out.1] at h1
            have h4 := HFL.out (ksub 1 L)
            rw [HR.out.2] at h4
            have h2 := HSL.out
            have h3 := HL.out
            show _ ≤ _; omega
          have HB7 := Lib.hid hB7
          have HM7 := Lib.hid hm7
          have HF7 := Lib.hid hf7
          clear hB7 hm7 hf7 hb7
          go_wp2_with fail
          refine (HI3.out w7 HB7.out f7 _ HF7.out HS2.out).mono ?_
          rintro e w8 ⟨v8, f8, rfl, hf8, hm8, hb8⟩
          obtain ⟨a8, d8, rfl, _⟩ := Rd.own hf8.1
          have HF8 := Lib.hid hf8
          have HB8 := Lib.hid hb8
          have HM8 := Lib.hid (find_sum (x := x) (xs := xs) (by rw [HR.out.1]; exact HM6.out) (by rw [if_neg HX0.out, HR.out.2]; exact HM7.out) hm8)
          clear hf8 hb8 hm8
          go_wp2_with fail
          go_ret
          exact ⟨_, f8, rfl, HF8.out, HM8.out, HB7.out.trans HB8.out⟩
      · have hc2 : ¬ (c : Int) = 1 := by omega
        have HI1 := Lib.hid (fun w5 h f v hf hl => HI.out (some ⟨a.block, a.off + 1, none⟩) (c - 1) (.inr rfl) (by omega) w5 h (goL ws x) (wsub x L) f v HGO.out hf hl)
        have HI2 := Lib.hid (fun w5 h f v hf hl => HI.out (some ⟨a.block, a.off + 1, none⟩) (c - 1) (.inr rfl) (by omega) w5 h pv (ksub 1 L) f v HN.out.hp hf hl)
        have HI3 := Lib.hid (fun w5 h f v hf hl => HEND.out w5 h rv (ksub 2 L) f v HN.out.hr hf hl)
        rw [HR.out.1] at HI1
        rw [HR.out.2] at HI2
        have HS0 : Hid (fs.length + (wsub x L).length ≤ 1000000) := by have := HSL.out; show _ ≤ _; omega
        clear HI HEND HGO
        go_enter Tryd.func21, Tryd.ntmps21
        go_wp2_with fail
        go_region_held3 (fun W => W.cell? a = some (.string xb)) (first | (exact (HCL.out _ (hd5.trans hb6)).1) | (exact (hb5.cell (p := a) has).trans ha0) | (exact ha0)) ((first
          | (have hd5 : Below base w w5 := ((Below.refl _ _).drew.trans hb5).mono HW.out.2
             go_at_call 21; refine (HI1.out w5 hd5 fs _ (HF.out.on ((Below.refl _ _).drew.trans hb5) (Nat.le_trans HW.out.1 HW.out.2)) HS0.out).mono ?_; rintro e w6 ⟨v6, f6, rfl, hf6, hm6, hb6⟩)
          | (go_at_call 35; refine HWA.out.mono ?_; rintro e w5 ⟨rfl, hb5⟩)))
        have hB6 : Below base w w6 := hd5.trans hb6
        obtain ⟨s0, s1, s2⟩ := HCL.out _ hB6
        obtain ⟨a6, d6, rfl, _⟩ := Rd.own hf6.1
        have HB6 := Lib.hid hB6
        have HM6 := Lib.hid hm6
        have HF6 := Lib.hid hf6
        have HL6 := Lib.hid (len_of hm6)
        clear hd5 hb6 hb5 hB6 hm6 hf6
        have hxe := HXE.out
        have HS1 : Hid (f6.length + (ksub 1 L).length ≤ 1000000) := by
          show _ ≤ _
          have hl6 := HL6.out
          have h1 := HFL.out (wsub x L)
          rw [HR.out.1] at h1
          have h2 := HSL.out
          have h3 := HL.out
          omega
        by_cases hx0 : x = []
        · rw [decide_eq_true hx0] at hxe
          have HX0 := Lib.hid hx0
          have HS2 : Hid (f6.length + (ksub 2 L).length ≤ 1000000) := by
            have hl6 := HL6.out
            have h1 := HFL.out (wsub x L)
            rw [HR.out.1] at h1
            have h2 := HSL.out
            have h3 := HL.out
            show _ ≤ _; omega
          clear hx0
          go_wp2_with fail
          refine (HI3.out w6 HB6.out f6 _ HF6.out HS2.out).mono ?_
          rintro e w8 ⟨v8, f8, rfl, hf8, hm8, hb8⟩
          obtain ⟨a8, d8, rfl, _⟩ := Rd.own hf8.1
          have HF8 := Lib.hid hf8
          have HB8 := Lib.hid hb8
          have HM8 := Lib.hid (find_sum (x := x) (xs := xs) (by rw [HR.out.1]; exact HM6.out) (by rw [if_pos HX0.out, List.append_nil]) hm8)
          clear hf8 hb8 hm8
          go_wp2_with fail
          go_ret
          exact ⟨_, f8, rfl, HF8.out, HM8.out, HB6.out.trans HB8.out⟩
        · rw [decide_eq_false hx0] at hxe
          have HX0 := Lib.hid hx0
          clear hx0
          go_wp2_with fail
          go_region_held3 (fun W => W.cell? ⟨g, 2, none⟩ = some (.pointer pv)) (first | (exact (HCL.out _ (HB6.out.drew.trans hb7)).2.1) | (exact (HCL.out _ HB6.out.drew).2.1)) ((first
            | (go_at_call 21; refine (HI2.out w6.drew HB6.out.drew f6 _ (HF6.out.on (Below.refl _ _).drew (Nat.le_trans HW.out.1 (Nat.le_trans HW.out.2 HB6.out.size))) HS1.out).mono ?_; rintro e w7 ⟨v7, f7, rfl, hf7, hm7, hb7⟩)))
          have hB7 : Below base w w7 := HB6.out.drew.trans hb7
          obtain ⟨t0, t1, t2⟩ := HCL.out _ hB7
          obtain ⟨a7, d7, rfl, _⟩ := Rd.own hf7.1
          have HL7 := Lib.hid (len_of hm7)
          have HS2 : Hid (f7.length + (ksub 2 L).length ≤ 1000000) := by
            have hl6 := HL6.out
            have hl7 := HL7.out
            have h1 := HFL.out (wsub x L)
            rw [HR.out.1] at h1
            have h4 := HFL.out (ksub 1 L)
            rw [HR.out.2] at h4
            have h2 := HSL.out
            have h3 := HL.out
            show _ ≤ _; omega
          have HB7 := Lib.hid hB7
          have HM7 := Lib.hid hm7
          have HF7 := Lib.hid hf7
          clear hB7 hm7 hf7 hb7
          go_wp2_with fail
          refine (HI3.out w7 HB7.out f7 _ HF7.out HS2.out).mono ?_
          rintro e w8 ⟨v8, f8, rfl, hf8, hm8, hb8⟩
          obtain ⟨a8, d8, rfl, _⟩ := Rd.own hf8.1
          have HF8 := Lib.hid hf8
          have HB8 := Lib.hid hb8
          have HM8 := Lib.hid (find_sum (x := x) (xs := xs) (by rw [HR.out.1]; exact HM6.out) (by rw [if_neg HX0.out, HR.out.2]; exact HM7.out) hm8)
          clear hf8 hb8 hm8
          go_wp2_with fail
          go_ret
          exact ⟨_, f8, rfl, HF8.out, HM8.out, HB7.out.trans HB8.out⟩
end Go.Proofs.YtgfjkpfjajjidaaDoor
