/- StoreLocks, walked. -/
import Derived.Test.YtilhegdhbcmlkaaDoorRoom
import Derived.Test.YtilhegdhbcmlkaaDoorCl
import Derived.Deep.Cut
import Derived.Deep.CutRange
import Derived.Deep.CutBlock
namespace Go.Proofs.YtilhegdhbcmlkaaDoor
open Go.RowKit

theorem i64_and3 (n : Int) : bits .and .i64 n 3 = n % 4 := by
  have h : (BitVec.ofInt 64 3).toNat = 2 ^ 2 - 1 := by decide
  have key : (BitVec.ofInt 64 n &&& BitVec.ofInt 64 3).toNat = (n % ((2 ^ 64 : Nat) : Int)).toNat % 2 ^ 2 := by
    rw [BitVec.toNat_and, BitVec.toNat_ofInt, h, Nat.and_two_pow_sub_one_eq_mod]
  show IntKind.i64.wrap ((BitVec.ofInt 64 n &&& BitVec.ofInt 64 3).toNat : Nat) = n % 4
  rw [key, IntKind.wrap_i64]
  omega

/-- Four whole numbers in a block. -/
def numsI (f : Nat → Int) : Array Value := #[.int .i64 (f 0), .int .i64 (f 1), .int .i64 (f 2), .int .i64 (f 3)]
def Ni (W : World) (C : Nat) (f : Nat → Int) : Prop := W.heap[C]? = some (.cells (numsI f) 28 (0, 0))
theorem Ni.at {W : World} {C : Nat} {f : Nat → Int} (h : Ni W C f) (k : Nat) (hk : k < 4) : W.cell? ⟨C, k, none⟩ = some (.int .i64 (f k)) ∧ W.frozen? ⟨C, k, none⟩ = false := by
  refine ⟨?_, blk_free h k⟩
  rw [blk_cell h]
  exact four (P := fun k => (numsI f)[k]? = some (.int .i64 (f k))) rfl rfl rfl rfl k hk
theorem numsI_upd (f : Nat → Int) (v : Int) : ∀ k, k < 4 → (numsI f).setIfInBounds k (.int .i64 v) = numsI (upd f k v) := four rfl rfl rfl rfl
theorem Ni.put {W : World} {C : Nat} {f : Nat → Int} (h : Ni W C f) (k : Nat) (hk : k < 4) (v : Int) : Ni (W.setCell ⟨C, k, none⟩ (.int .i64 v)) C (upd f k v) := by
  unfold Ni
  rw [set_same k h, numsI_upd f v k hk]
theorem Ni.same {W : World} {C : Nat} {f g : Nat → Int} (h : Ni W C f) (e : ∀ i, i < 4 → g i = f i) : Ni W C g := by
  unfold Ni at *
  rw [h]
  unfold numsI
  rw [e 0 (by decide), e 1 (by decide), e 2 (by decide), e 3 (by decide)]
theorem StAt.iset {W : World} {G C : Nat} {b : Nat → Nat} {o : Nat → Int} {m : Nat → Txs} {f : Nat → Int} (hs : StAt W G b o m) (hN : Ni W C f) (k : Nat) (v : Value) : StAt (W.setCell ⟨C, k, none⟩ v) G b o m := by
  have hg : G ≠ C := fun e => by
    unfold Ni at hN
    rw [← e, hs.blk] at hN
    injection hN with hN
    injection hN with _ h2
    exact absurd h2 (by decide)
  refine hs.block (set_oth W _ v G hg) fun i hi => set_oth W _ v _ fun e => ?_
  obtain ⟨es, c, h1, _⟩ := hs.maps i hi
  unfold Ni at hN
  rw [show b i = C from e] at h1
  rw [h1] at hN
  cases hN
theorem tm3 (n : Int) : -2 ≤ n.tmod 3 ∧ n.tmod 3 ≤ 2 := by
  have h1 := Int.tmod_lt_of_pos n (by decide : (0 : Int) < 3)
  have h2 := Int.lt_tmod_of_pos n (by decide : (0 : Int) < 3)
  omega
theorem home_right {o : Nat → Int} {ow : Int} {s : Bytes} (hr : rightL s = true) : homeC o ow s = if ofL (o (shardL s)) ow then 0 else 7 := by
  unfold homeC; rw [if_pos hr]
theorem g7 {o : Nat → Int} {m : Nat → Txs} {ow : Int} {s : Bytes} (hr : rightL s = true) : ((getL o m ow s).2 == 7) = !ofL (o (shardL s)) ow := by
  have hh := home_right (o := o) (ow := ow) hr
  unfold getL
  cases ho : ofL (o (shardL s)) ow with
  | true =>
    rw [ho] at hh
    simp only [if_true] at hh
    rw [if_pos hh]
    cases mLook (m (shardL s)) s <;> rfl
  | false =>
    rw [ho] at hh
    simp only [Bool.false_eq_true, if_false] at hh
    rw [hh]; rfl
theorem d7 {o : Nat → Int} {m : Nat → Txs} {ow : Int} {s : Bytes} (hr : rightL s = true) : (delC o m ow s [] == 7) = !ofL (o (shardL s)) ow := by
  have hh := home_right (o := o) (ow := ow) hr
  unfold delC
  cases ho : ofL (o (shardL s)) ow with
  | true =>
    rw [ho] at hh
    simp only [if_true] at hh
    rw [if_pos hh]
    cases mLook (m (shardL s)) s <;> rfl
  | false =>
    rw [ho] at hh
    simp only [Bool.false_eq_true, if_false] at hh
    rw [hh]; rfl
theorem p7 {o : Nat → Int} {m : Nat → Txs} {ow : Int} {s : Bytes} (hr : rightL s = true) : (putC o m ow s [] == 7) = !ofL (o (shardL s)) ow := by
  have hh := home_right (o := o) (ow := ow) hr
  cases ho : ofL (o (shardL s)) ow with
  | true =>
    rw [ho] at hh
    simp only [if_true] at hh
    rw [putC_free hh]
    split
    · rfl
    · split <;> rfl
  | false =>
    rw [ho] at hh
    simp only [Bool.false_eq_true, if_false] at hh
    rw [(put_wait (v := []) (by rw [hh]; decide)).1, hh]; rfl
theorem SI.delM {o : Nat → Int} {m : Nat → Txs} {M : Txs} (h : SI m M) (ow : Int) (s tag : Bytes) : ∃ M', SI (delM o m ow s tag) M' := by
  unfold Go.Proofs.YtilhegdhbcmlkaaDoor.delM
  split
  · exact ⟨_, h.del s⟩
  · exact ⟨_, h⟩
theorem SI.putM {o : Nat → Int} {m : Nat → Txs} {M : Txs} (h : SI m M) (ow : Int) {s v : Bytes} (hr : rightL s = true) (hv : v.length ≤ 300) : ∃ M', SI (putM o m ow s v []) M' := by
  by_cases hc : putC o m ow s [] = 0
  · rw [(put_yes hc).1]
    refine ⟨_, h.put hr hv ?_⟩
    have hh : homeC o ow s = 0 := by
      by_cases h0 : homeC o ow s = 0
      · exact h0
      · exact absurd ((put_wait (v := []) h0).1.symm.trans hc) h0
    rw [putC_free hh] at hc
    cases hm : mHas (m (shardL s)) s with
    | true => exact .inl rfl
    | false =>
      rw [hm] at hc
      right
      simp only [Bool.false_eq_true, if_false] at hc
      by_cases h8 : 8 ≤ (m (shardL s)).length
      · rw [if_pos h8] at hc; cases hc
      · omega
  · rw [(put_not rfl hc).1]; exact ⟨_, h⟩
def unK (o : Nat → Int) (ow : Int) (j : Nat) : Nat → Int := fun i => if i < j ∧ o i = ow then 0 else o i
theorem unK_at (o : Nat → Int) (ow : Int) (j : Nat) : unK o ow j j = o j := by unfold unK; simp
theorem unK_succ (o : Nat → Int) (ow : Int) (j : Nat) : unK o ow (j + 1) = if o j = ow then upd (unK o ow j) j 0 else unK o ow j := by
  funext i
  by_cases h : o j = ow
  · rw [if_pos h]
    unfold upd unK
    by_cases hi : i = j
    · subst hi; simp [h]
    · rw [if_neg hi]
      by_cases hij : i < j
      · have : i < j + 1 := by omega
        simp [hij, this]
      · have : ¬ i < j + 1 := by omega
        simp [hij, this]
  · rw [if_neg h]
    unfold unK
    by_cases hi : i = j
    · subst hi; simp [h]
    · by_cases hij : i < j
      · have : i < j + 1 := by omega
        simp [hij, this]
      · have : ¬ i < j + 1 := by omega
        simp [hij, this]
theorem unK_end (o : Nat → Int) (ow : Int) (h0 : 0 ≤ ow) (i : Nat) (hi : i < 4) : unlockL o ow i = unK o ow 4 i := by
  unfold unlockL unK ofL
  by_cases h : o i = ow
  · by_cases hw : 0 < ow
    · simp [h, hw, hi]
    · have : ow = 0 := by omega
      subst this
      simp [h, hi]
  · have : (o i == ow) = false := by simpa using h
    simp [h, this]
theorem free_eval (o : Nat → Int) (ow : Int) (kk : Nat) (hk : kk < 4) : freeL o ow (kk : Int) = (decide (0 < ow) && (o kk == 0 || o kk == ow)) := by
  unfold freeL
  rw [decide_eq_true (by omega : (0 : Int) ≤ (kk : Int)), decide_eq_true (by omega : (kk : Int) < 4)]
  simp
theorem idx28 (f : Nat → Int) (W : World) : ∀ k, k < 4 → (Instr.index 28 (.agg (numsI f)) (.int .i64 ((k : Nat) : Int))).run Tryd.prog W = .ok (.int .i64 (f k)) W :=
  four (by kernel_rfl) (by kernel_rfl) (by kernel_rfl) (by kernel_rfl)

set_option maxRecDepth 100000 in
set_option maxHeartbeats 8000000 in
theorem locks_walk (xs : List Cl) (A : Option Addr) (c : Nat) (w : World) (hrd : Rd w w.heap.size 6 A xs.length (clCells xs)) (hxc : xs.length ≤ c) (hcm : c ≤ maxLen) (hz : ∀ x ∈ xs, x.key.length ≤ 140737488355328 ∧ x.val.length ≤ 140737488355328) (hg : GB w) : Calls Tryd.prog 4 #[.slice A xs.length c] w fun e w' => e = .returned (.bool true) ∧ Below w.heap.size w w' := by
  have HF := Lib.hid (fit_any w hg)
  have HG := Lib.hid (fun w1 (hb : Below w.heap.size w w1) => hg.on hb)
  have HLT := Lib.hid (fun w1 (hb : Below w.heap.size w w1) => light_any xs A c w1 ((hrd.below hb (Nat.le_refl _)).wide hb.size) hxc hcm hz)
  have HRD := Lib.hid (fun w1 (hb : Below w.heap.size w w1) => hrd.below hb (Nat.le_refl _))
  unfold maxLen at hcm
  clear hg hrd hz
  cases hl : lightL xs with
  | false =>
    rw [hl] at HLT
    clear hl
    obtain ⟨n, hn⟩ : ∃ n, xs.length = n := ⟨_, rfl⟩
    rw [hn] at HLT hxc HRD ⊢
    clear hn
    go_enter Tryd.func4, Tryd.ntmps4
    go_wp2_with fail
    refine HF.out.mono ?_
    rintro e w1 ⟨rfl, hb1⟩
    have HB1 := Lib.hid hb1
    clear hb1
    go_wp2_with fail
    refine (HLT.out _ HB1.out).mono ?_
    rintro e w2 ⟨rfl, hb2⟩
    have HB2 := Lib.hid (bt HB1.out hb2)
    clear hb2
    go_wp2_with fail
    go_ret
    exact ⟨rfl, HB2.out⟩
  | true =>
    rw [hl] at HLT
    have h200 : xs.length ≤ 200 := by
      unfold lightL at hl
      simp at hl
      exact hl.1
    have HSH : Hid (∀ x ∈ xs, x.key.length + x.val.length ≤ 300) := by
      unfold lightL at hl
      simp at hl
      exact fun x hx => hl.2 x hx
    clear hl
    obtain ⟨n, hn⟩ : ∃ n, xs.length = n := ⟨_, rfl⟩
    have HNX := Lib.hid hn
    rw [hn] at HLT hxc HRD h200 ⊢
    clear hn
    have HN := Lib.hid (fun wx => new_any wx)
    go_enter Tryd.func4, Tryd.ntmps4
    go_wp2_with fail
    refine HF.out.mono ?_
    rintro e w1 ⟨rfl, hb1⟩
    have HB1 := Lib.hid hb1
    clear hb1
    go_wp2_with fail
    refine (HLT.out _ HB1.out).mono ?_
    rintro e w2 ⟨rfl, hb2⟩
    have HB2 := Lib.hid (bt HB1.out hb2)
    clear hb2
    go_wp2_with fail
    refine (HN.out _).mono ?_
    rintro e w4 ⟨bs, rfl, hst, hbm, hb4⟩
    obtain ⟨G, hG⟩ : ∃ G, w2.heap.size = G := ⟨_, rfl⟩
    rw [hG] at hst hbm hb4
    have hGB : w.heap.size ≤ G := by have := HB2.out.size; omega
    have HGB := Lib.hid hGB
    have HBM := Lib.hid (fun i (hi : i < 4) => Nat.le_trans hGB (hbm i hi))
    have hb4' := HB2.out.trans (hb4.mono hGB)
    have hal : Below w4.heap.size w4 (w4.alloc (.cells #[.int .i64 0, .int .i64 0, .int .i64 0, .int .i64 0] 28)) := (Below.refl _ _).alloc (Nat.le_refl _) _
    have HS0 := Lib.hid (hst.on hal)
    have HN0 : Hid (Ni (w4.alloc (.cells #[.int .i64 0, .int .i64 0, .int .i64 0, .int .i64 0] 28)) w4.heap.size fun _ => 0) := heap_alloc_new w4 _
    have HB0 := Lib.hid (bt hb4' hal)
    have HPB : Hid (w.heap.size ≤ w4.heap.size) := hb4'.size
    rw [hG]
    clear hst hbm hb4 hGB hG hal hb4' HN HLT
    go_wp2_with fail
    obtain ⟨P, hP⟩ : ∃ P, w4.heap.size = P := ⟨_, rfl⟩
    rw [hP] at HN0 HPB
    rw [hP]
    generalize w4.alloc (.cells #[.int .i64 0, .int .i64 0, .int .i64 0, .int .i64 0] 28) = w6 at *
    clear hP
    go_loopw [32] (fun i wx => ∃ (k : Nat) (o : Nat → Int) (m : Nat → Txs) (M : Txs), i = .int .i64 k ∧ k ≤ n ∧ Hid (StAt wx G bs o m) ∧ Hid (SI m M) ∧ Hid (Ni wx P o) ∧ Hid (Below w.heap.size w wx)) (fun i _ => n - (intOf i).toNat)
    case atStart => exact ⟨0, _, _, [], rfl, by omega, HS0.out, SI.new, HN0.out, HB0.out⟩
    case round =>
      clear HS0 HN0 HB0
      obtain ⟨k, o, m, M, rfl, hk, hS, hI, hNi, hB⟩ := hrel
      by_cases hkn : k < n
      · obtain ⟨x, hx⟩ : ∃ x, xs[k]? = some x := ⟨xs[k]'(by rw [HNX.out]; exact hkn), List.getElem?_eq_getElem _⟩
        obtain ⟨a, rfl, hab, c0, c1, c2, c3, c4, c5⟩ := cl_in (HRD.out wr hB.out) hkn hx
        have hsh := HSH.out x (List.mem_of_getElem? hx)
        unfold strV at c3 c4
        have hkz : (mkB x.key).size ≤ 300 := by rw [mkB_size]; omega
        have HKD : Hid ((mkB x.key).data.toList = x.key) := mkB_data _
        have hand := i64_and3 x.owner
        obtain ⟨ow, how⟩ : ∃ ow, x.owner % 4 = ow := ⟨_, rfl⟩
        have how0 : 0 ≤ ow := by omega
        have how4 : ow < 4 := by omega
        rw [how] at hand
        have hal : Below wr.heap.size wr (wr.alloc (.cells #[.int .i64 x.kind, .int .i64 x.owner, .int .i64 x.shard, .string (mkB x.key), .string (mkB x.val), .int .i64 x.tag] 30)) := (Below.refl _ _).alloc (Nat.le_refl _) _
        have HS1 := Lib.hid (hS.out.on hal)
        have HN1 : Hid (Ni _ P o) := (hal.block P (blk_lt hNi.out)).trans hNi.out
        have HB1' := Lib.hid (hB.out.trans (hal.mono hB.out.size))
        have HI1 := Lib.hid hI.out
        have hkd : decide ((k : Int) < (n : Int)) = true := by simp; omega
        clear hx how hsh hS hNi hB hI hal
        obtain ⟨kind, hkind⟩ : ∃ kind, x.kind = kind := ⟨_, rfl⟩
        obtain ⟨owner, howner⟩ : ∃ owner, x.owner = owner := ⟨_, rfl⟩
        obtain ⟨sh, hshd⟩ : ∃ sh, x.shard = sh := ⟨_, rfl⟩
        obtain ⟨tg, htg⟩ : ∃ tg, x.tag = tg := ⟨_, rfl⟩
        obtain ⟨kb, hkb⟩ : ∃ kb, mkB x.key = kb := ⟨_, rfl⟩
        obtain ⟨vb, hvb⟩ : ∃ vb, mkB x.val = vb := ⟨_, rfl⟩
        rw [hkind] at c0 HS1 HN1 HB1'
        rw [howner] at c1 hand HS1 HN1 HB1'
        rw [hshd] at c2 HS1 HN1 HB1'
        rw [hkb] at c3 hkz HKD HS1 HN1 HB1'
        rw [hvb] at c4 HS1 HN1 HB1'
        rw [htg] at c5 HS1 HN1 HB1'
        clear hkind howner hshd htg hkb hvb HKD
        obtain ⟨q6, hq6⟩ : ∃ q6, wr.heap.size = q6 := ⟨_, rfl⟩
        have HC6 : Hid ((wr.alloc (.cells #[.int .i64 kind, .int .i64 owner, .int .i64 sh, .string kb, .string vb, .int .i64 tg] 30)).heap[q6]? = some (.cells #[.int .i64 kind, .int .i64 owner, .int .i64 sh, .string kb, .string vb, .int .i64 tg] 30 (0, 0))) := by
          show _ = _
          rw [← hq6]; exact heap_alloc_new wr _
        go_upto_region 12 with fail
        generalize wr.alloc (.cells #[.int .i64 kind, .int .i64 owner, .int .i64 sh, .string kb, .string vb, .int .i64 tg] 30) = wa at *
        clear hq6 c0 c1 c2 c3 c4 c5 hab hand
        have d0 := blk_cell HC6.out 0
        have d3 := blk_cell HC6.out 3
        simp only [List.getElem?_toArray, List.getElem?_cons_zero, List.getElem?_cons_succ] at d0 d3
        obtain ⟨ib, hib⟩ : ∃ ib, (decide (0 ≤ sh) && decide (sh < 4)) = ib := ⟨_, rfl⟩
        have HIB := Lib.hid hib
        clear hib
        go_cut [9] from 33 to 196 (fun v wx => v = .bool ib ∧ wx = wa)
        case first =>
          as_aux_lemma =>
            by_cases h0 : 0 ≤ sh
            · have hb := HIB.out
              rw [decide_eq_true h0, Bool.true_and] at hb
              by_cases h4 : sh < 4
              · rw [decide_eq_true h4] at hb
                subst hb
                go_wp2_with fail
                go_meet
                exact ⟨rfl, rfl⟩
              · rw [decide_eq_false h4] at hb
                subst hb
                go_wp2_with fail
                go_meet
                exact ⟨rfl, rfl⟩
            · have hb := HIB.out
              rw [decide_eq_false h0, Bool.false_and] at hb
              subst hb
              go_wp2_with fail
              go_meet
              exact ⟨rfl, rfl⟩
        case rest =>
          obtain ⟨rfl, rfl⟩ := hcut
          go_upto_region 13 with fail
          obtain ⟨fr, hfr⟩ : ∃ fr, freeL o ow sh = fr := ⟨_, rfl⟩
          have HFR := Lib.hid hfr
          clear hfr
          go_cut [10] from 33 to 196 (fun v wx => v = .bool fr ∧ wx = wc)
          case first =>
            as_aux_lemma =>
              by_cases hin : 0 ≤ sh ∧ sh < 4
              · obtain ⟨kk, rfl⟩ : ∃ kk : Nat, sh = (kk : Int) := ⟨sh.toNat, by omega⟩
                have hk4 : kk < 4 := by omega
                have hinb : (decide (0 ≤ (kk : Int)) && decide ((kk : Int) < 4)) = true := by simp; omega
                have hb := HIB.out
                rw [hinb] at hb
                subst hb
                clear hinb
                have hmn : min (kk : Int) 3 = (kk : Int) := by omega
                have hmx : max (kk : Int) 0 = (kk : Int) := by omega
                obtain ⟨p1, _⟩ := HN1.out.at kk hk4
                have hf := HFR.out
                rw [free_eval o ow kk hk4] at hf
                obtain ⟨ok, hok⟩ : ∃ ok, o kk = ok := ⟨_, rfl⟩
                rw [hok] at hf p1
                clear hin
                by_cases hw : 0 < ow
                · rw [decide_eq_true hw, Bool.true_and] at hf
                  by_cases z0 : ok = 0
                  · have z1 : (ok == 0) = true := by simpa using z0
                    rw [z1, Bool.true_or] at hf
                    subst hf
                    clear z0
                    go_wp2_with fail
                    go_meet
                    exact ⟨rfl, rfl⟩
                  · have z1 : (ok == 0) = false := by simpa using z0
                    rw [z1, Bool.false_or] at hf
                    subst hf
                    clear z0
                    go_wp2_with fail
                    go_meet
                    exact ⟨rfl, rfl⟩
                · rw [decide_eq_false hw, Bool.false_and] at hf
                  subst hf
                  go_wp2_with fail
                  go_meet
                  exact ⟨rfl, rfl⟩
              · have hinb : (decide (0 ≤ sh) && decide (sh < 4)) = false := by
                  by_cases h0 : 0 ≤ sh
                  · have h4 : ¬ sh < 4 := fun h => hin ⟨h0, h⟩
                    rw [decide_eq_false h4, Bool.and_false]
                  · rw [decide_eq_false h0, Bool.false_and]
                have hf := HFR.out
                unfold freeL at hf
                rw [Bool.and_assoc (decide (0 < ow)), hinb, Bool.and_false, Bool.false_and] at hf
                subst hf
                have hb := HIB.out
                rw [hinb] at hb
                subst hb
                clear hin hinb
                go_wp2_with fail
                go_meet
                exact ⟨rfl, rfl⟩
          case rest =>
            obtain ⟨rfl, rfl⟩ := hcut
            have HFC := Lib.hid (free_any G bs o m ow sh wc HS1.out)
            rw [HFR.out] at HFC
            have hff : (fr != fr) = false := by simp
            obtain ⟨t, ht⟩ : ∃ t, kind.tmod 3 = t := ⟨_, rfl⟩
            obtain ⟨ht1, ht2⟩ := tm3 kind
            rw [ht] at ht1 ht2
            obtain ⟨kk, hkk⟩ : ∃ kk : Nat, (t + 3) % 3 = (kk : Int) := ⟨((t + 3) % 3).toNat, by omega⟩
            have hk3 : kk < 3 := by omega
            go_wp2_with fail
            refine HFC.out.mono ?_
            rintro e w7 ⟨rfl, rfl⟩
            go_upto_block 2 with fail
            clear ht ht1 ht2 hff
            go_cut [11, 12, 13, 14, 15, 16, 17] from 33 to 196 (fun _ _ _ _ _ _ _ wx => ∃ (o : Nat → Int) (m : Nat → Txs) (M : Txs), Hid (StAt wx G bs o m) ∧ Hid (SI m M) ∧ Hid (Ni wx P o) ∧ Hid (Below w.heap.size w wx))
            case first =>
              rcases (by omega : kk = 0 ∨ kk = 1 ∨ kk = 2) with h0 | h0 | h0
              · as_aux_lemma =>
                  have hb0 : ((kk : Int) == 0) = true := by simp; omega
                  clear h0
                  have HLK := Lib.hid (lock_any G bs o m ow sh wc HS1.out)
                  rw [HFR.out] at HLK
                  have hff : (fr != fr) = false := by simp
                  go_wp2_with fail
                  refine HLK.out.mono ?_
                  rintro e x1 ⟨rfl, hs, hf⟩
                  have HSx := Lib.hid hs
                  have HNx : Hid (Ni x1 P o) := hf.keep HS1.out HN1.out (by decide)
                  have HXx := Lib.hid (HB1'.out.trans (hf.below HB1'.out.size HGB.out HBM.out))
                  clear hs hf
                  cases fr with
                  | true =>
                    have hin : 0 ≤ sh ∧ sh < 4 := by
                      have := HFR.out
                      unfold freeL at this
                      simp only [Bool.and_eq_true, decide_eq_true_eq] at this
                      exact ⟨this.1.1.2, this.1.2⟩
                    obtain ⟨k2, rfl⟩ : ∃ k2 : Nat, sh = (k2 : Int) := ⟨sh.toNat, by omega⟩
                    have hk4 : k2 < 4 := by omega
                    have hlk : lockL o ow (k2 : Int) = upd o k2 ow := by unfold lockL; rw [if_pos HFR.out]; simp
                    rw [hlk] at HSx
                    obtain ⟨p1, p2⟩ := HNx.out.at k2 hk4
                    have HSy := Lib.hid (HSx.out.iset HNx.out k2 (.int .i64 ow))
                    have HNy := Lib.hid (HNx.out.put k2 hk4 ow)
                    have HXy := Lib.hid (HXx.out.setCell (p := ⟨P, k2, none⟩) HPB.out (.int .i64 ow))
                    clear hin hlk
                    go_wp2_with fail
                    go_meet
                    exact ⟨_, m, M, HSy.out, HI1.out, HNy.out, HXy.out⟩
                  | false =>
                    have hlk : lockL o ow sh = o := by unfold lockL; rw [HFR.out]; rfl
                    rw [hlk] at HSx
                    go_wp2_with fail
                    go_meet
                    exact ⟨_, m, M, HSx.out, HI1.out, HNx.out, HXx.out⟩
              · as_aux_lemma =>
                  have hb0 : ((kk : Int) == 0) = false := by simp; omega
                  have hb1 : ((kk : Int) == 1) = true := by simp; omega
                  clear h0
                  have HUN := Lib.hid (unlock_any G bs o m ow wc HS1.out)
                  have HUE := Lib.hid (unK_end o ow how0)
                  go_wp2_with fail
                  refine HUN.out.mono ?_
                  rintro e x1 ⟨rfl, hs, hf⟩
                  have HSx := Lib.hid hs
                  have HNx : Hid (Ni x1 P o) := hf.keep HS1.out HN1.out (by decide)
                  have HXx := Lib.hid (HB1'.out.trans (hf.below HB1'.out.size HGB.out HBM.out))
                  clear hs hf
                  go_wp2_with fail
                  go_loopw [153] (fun i wx => ∃ j : Nat, i = .int .i64 j ∧ j ≤ 4 ∧ Hid (Ni wx P (unK o ow j)) ∧ Hid (StAt wx G bs (unlockL o ow) m) ∧ Hid (Below w.heap.size w wx)) (fun i _ => 4 - (intOf i).toNat)
                  case atStart => exact ⟨0, rfl, by omega, HNx.out.same (fun i _ => by unfold unK; simp), HSx.out, HXx.out⟩
                  case round =>
                    obtain ⟨j, rfl, hj, hN2, hS2, hX2⟩ := hrel
                    by_cases hj4 : j < 4
                    · obtain ⟨p1, p2⟩ := hN2.out.at j hj4
                      rw [unK_at] at p1
                      have hus := unK_succ o ow j
                      have HSy := Lib.hid (hS2.out.iset hN2.out j (.int .i64 0))
                      have HNy := Lib.hid (hN2.out.put j hj4 0)
                      have HXy := Lib.hid (hX2.out.setCell (p := ⟨P, j, none⟩) HPB.out (.int .i64 0))
                      by_cases ho : o j = ow
                      · rw [if_pos ho] at hus
                        rw [← hus] at HNy
                        have hob : (o j == ow) = true := by simpa using ho
                        clear hus ho
                        go_wp2_with fail
                        exact ⟨⟨j + 1, by simp, by omega, HNy.out, HSy.out, HXy.out⟩, by simp [intOf]; omega⟩
                      · rw [if_neg ho] at hus
                        have HNz : Hid (Ni wr P (unK o ow (j + 1))) := by show Ni _ _ _; rw [hus]; exact hN2.out
                        have hob : (o j == ow) = false := by simpa using ho
                        clear hus ho
                        go_wp2_with fail
                        exact ⟨⟨j + 1, by simp, by omega, HNz.out, hS2.out, hX2.out⟩, by simp [intOf]; omega⟩
                    · have hj' : j = 4 := by omega
                      have HNz : Hid (Ni wr P (unlockL o ow)) := hN2.out.same (fun i hi => by rw [hj']; exact HUE.out i hi)
                      clear hj'
                      go_wp2_with fail
                      go_meet
                      exact ⟨_, m, M, hS2.out, HI1.out, HNz.out, hX2.out⟩
              · as_aux_lemma =>
                  have hb0 : ((kk : Int) == 0) = false := by simp; omega
                  have hb1 : ((kk : Int) == 1) = false := by simp; omega
                  clear h0
                  cases hr : rightL kb.data.toList with
                  | false =>
                    have hsz : kb.size = 0 ∨ 40 < kb.size := by
                      unfold rightL at hr
                      rw [data_len] at hr
                      simp at hr
                      omega
                    clear hr
                    rcases hsz with hsz | hsz
                    · have z1 : ((kb.size : Int) == 0) = true := by rw [beq_iff_eq]; omega
                      clear hsz
                      go_wp2_with fail
                      exact ⟨⟨k + 1, o, m, M, by simp, by omega, HS1.out, HI1.out, HN1.out, HB1'.out⟩, by simp [intOf]; omega⟩
                    · have z1 : ((kb.size : Int) == 0) = false := by rw [beq_eq_false_iff_ne]; omega
                      go_wp2_with fail
                      exact ⟨⟨k + 1, o, m, M, by simp, by omega, HS1.out, HI1.out, HN1.out, HB1'.out⟩, by simp [intOf]; omega⟩
                  | true =>
                    have z12 : 1 ≤ kb.size ∧ kb.size ≤ 40 := by
                      have h := hr
                      unfold rightL at h
                      rw [data_len] at h
                      simp only [Bool.and_eq_true, decide_eq_true_eq] at h
                      exact h
                    have z1 : ((kb.size : Int) == 0) = false := by rw [beq_eq_false_iff_ne]; omega
                    have z2 : kb.size ≤ 40 := z12.2
                    clear z12
                    have hsl := shard_lt kb.data.toList
                    have HLS := Lib.hid (fun wx => lshard_any kb (by omega) wx)
                    have HGT := Lib.hid (get_any G bs o m ow kb wc HS1.out)
                    have HDL := Lib.hid (fun wx (hs : StAt wx G bs o m) hgx => del_any G bs o m ow kb ⟨#[]⟩ wx hs hgx (fun v hv => by have := HI1.out.vlen _ _ hv; omega))
                    have hen : (⟨#[]⟩ : ByteArray).data.toList = [] := rfl
                    have hev : (⟨#[118]⟩ : ByteArray).data.toList = [118] := rfl
                    rw [hen] at HDL
                    have q1 := g7 (o := o) (m := m) (ow := ow) hr
                    have q2 := d7 (o := o) (m := m) (ow := ow) hr
                    obtain ⟨M3, hI3⟩ := HI1.out.delM (o := o) ow kb.data.toList []
                    obtain ⟨m3, hm3⟩ : ∃ m3, delM o m ow kb.data.toList [] = m3 := ⟨_, rfl⟩
                    rw [hm3] at HDL hI3
                    have q3 := p7 (o := o) (m := m3) (ow := ow) hr
                    have HPT := Lib.hid (fun wx (hs : StAt wx G bs o m3) hgx => put_any G bs o m3 ow kb ⟨#[118]⟩ ⟨#[]⟩ wx hs hgx (fun v hv => by have := hI3.vlen _ _ hv; omega) (by have := hI3.len _ hsl; omega))
                    rw [hen, hev] at HPT
                    obtain ⟨M4, hI4⟩ := hI3.putM (o := o) ow (v := [118]) hr (by decide)
                    obtain ⟨m4, hm4⟩ : ∃ m4, putM o m3 ow kb.data.toList [118] [] = m4 := ⟨_, rfl⟩
                    rw [hm4] at HPT hI4
                    have HI4 := Lib.hid hI4
                    obtain ⟨o1, o2⟩ := HN1.out.at _ hsl
                    obtain ⟨ge, hge⟩ : ∃ ge, (getL o m ow kb.data.toList).2 = ge := ⟨_, rfl⟩
                    obtain ⟨gv, hgv⟩ : ∃ gv, strV (getL o m ow kb.data.toList).1 = gv := ⟨_, rfl⟩
                    rw [hge, hgv] at HGT
                    rw [hge] at q1
                    obtain ⟨dc, hdc⟩ : ∃ dc, delC o m ow kb.data.toList [] = dc := ⟨_, rfl⟩
                    rw [hdc] at HDL q2
                    obtain ⟨pc, hpc⟩ : ∃ pc, putC o m3 ow kb.data.toList [] = pc := ⟨_, rfl⟩
                    rw [hpc] at HPT q3
                    obtain ⟨pr, hpr⟩ : ∃ pr, putR o m3 ow kb.data.toList [] = pr := ⟨_, rfl⟩
                    rw [hpr] at HPT
                    obtain ⟨mn, hmn⟩ : ∃ mn, ofL (o (shardL kb.data.toList)) ow = mn := ⟨_, rfl⟩
                    rw [hmn] at q1 q2 q3
                    obtain ⟨s, hs⟩ : ∃ s, shardL kb.data.toList = s := ⟨_, rfl⟩
                    rw [hs] at HLS o1 hsl hmn
                    have HMN := Lib.hid hmn
                    clear hr hen hev hI3 hI4 hm3 hm4 hge hgv hdc hpc hpr hs hmn o2
                    go_upto_region 18 with fail
                    go_cut [12] from 33 to 196 (fun v wx => v = .bool mn ∧ wx = wc)
                    case first =>
                      have hf := HMN.out
                      unfold ofL at hf
                      obtain ⟨ok, hok⟩ : ∃ ok, o s = ok := ⟨_, rfl⟩
                      rw [hok] at hf o1
                      by_cases hw : 0 < ow
                      · rw [decide_eq_true hw, Bool.true_and] at hf
                        go_wp2_with fail
                        refine (HLS.out _).mono ?_
                        rintro e x1 ⟨rfl, rfl⟩
                        go_wp2_with fail
                        go_meet
                        exact ⟨rfl, rfl⟩
                      · rw [decide_eq_false hw, Bool.false_and] at hf
                        subst hf
                        go_wp2_with fail
                        go_meet
                        exact ⟨rfl, rfl⟩
                    case rest =>
                      obtain ⟨rfl, rfl⟩ := hcut
                      go_wp2_with fail
                      refine HGT.out.mono ?_
                      rintro e x1 ⟨rfl, hb1⟩
                      have hk1 := (hb1.block q6 (blk_lt HC6.out)).trans HC6.out
                      have e1 := blk_cell hk1 3
                      simp only [List.getElem?_toArray, List.getElem?_cons_zero, List.getElem?_cons_succ] at e1
                      have HC1 := Lib.hid hk1
                      have HS2 := Lib.hid (HS1.out.on hb1)
                      have HN2 : Hid (Ni x1 P o) := (hb1.block P (blk_lt HN1.out)).trans HN1.out
                      have HX2 := Lib.hid (bt HB1'.out hb1)
                      clear hb1 hk1 d3
                      go_wp2_with fail
                      refine (HDL.out _ HS2.out (HG.out _ HX2.out)).mono ?_
                      rintro e x2 ⟨rfl, hs2, hf2⟩
                      have hk2 := hf2.keep HS2.out HC1.out (by decide)
                      have e2 := blk_cell hk2 3
                      simp only [List.getElem?_toArray, List.getElem?_cons_zero, List.getElem?_cons_succ] at e2
                      have HC2 := Lib.hid hk2
                      have HS3 := Lib.hid hs2
                      have HN3 : Hid (Ni x2 P o) := hf2.keep HS2.out HN2.out (by decide)
                      have HX3 := Lib.hid (HX2.out.trans (hf2.below HX2.out.size HGB.out HBM.out))
                      clear hs2 hf2 hk2 e1
                      cases mn with
                      | true =>
                        rw [Bool.not_true] at q1 q2 q3
                        have r1 : ¬ ge = 7 := by simpa using q1
                        have r2 : ¬ dc = 7 := by simpa using q2
                        have r3 : ¬ pc = 7 := by simpa using q3
                        have b1 : (ge != 7) = true := by simp [r1]
                        have b2 : (dc != 7) = true := by simp [r2]
                        have b3 : (pc != 7) = true := by simp [r3]
                        go_wp2_with fail
                        refine (HPT.out _ HS3.out (HG.out _ HX3.out)).mono ?_
                        rintro e x3 ⟨rfl, hs3, hf3⟩
                        have HS4 := Lib.hid hs3
                        have HN4 : Hid (Ni x3 P o) := hf3.keep HS3.out HN3.out (by decide)
                        have HX4 := Lib.hid (HX3.out.trans (hf3.below HX3.out.size HGB.out HBM.out))
                        clear hs3 hf3
                        go_wp2_with fail
                        go_meet
                        exact ⟨_, m4, M4, HS4.out, HI4.out, HN4.out, HX4.out⟩
                      | false =>
                        rw [Bool.not_false] at q1 q2 q3
                        have r1 : ge = 7 := by simpa using q1
                        have r2 : dc = 7 := by simpa using q2
                        have r3 : pc = 7 := by simpa using q3
                        subst r1
                        subst r2
                        subst r3
                        go_wp2_with fail
                        refine (HPT.out _ HS3.out (HG.out _ HX3.out)).mono ?_
                        rintro e x3 ⟨rfl, hs3, hf3⟩
                        have HS4 := Lib.hid hs3
                        have HN4 : Hid (Ni x3 P o) := hf3.keep HS3.out HN3.out (by decide)
                        have HX4 := Lib.hid (HX3.out.trans (hf3.below HX3.out.size HGB.out HBM.out))
                        clear hs3 hf3
                        go_wp2_with fail
                        go_meet
                        exact ⟨_, m4, M4, HS4.out, HI4.out, HN4.out, HX4.out⟩
            case rest =>
              as_aux_lemma =>
                obtain ⟨o2, m2, M2, hS2, hI2, hN2, hB2⟩ := hcut
                have HSA := Lib.hid hS2.out
                have HIA := Lib.hid hI2.out
                have HNA := Lib.hid hN2.out
                have HBA := Lib.hid hB2.out
                clear hkk hS2 hI2 hN2 hB2 HFC HS1 HN1 HB1' HI1 HC6 d0 d3 HFR HIB
                go_wp2_with fail
                go_loopw [18] (fun qv wx => ∃ q : Nat, qv = .int .i64 q ∧ 1 ≤ q ∧ q ≤ 4 ∧ Hid (StAt wx G bs o2 m2) ∧ Hid (Ni wx P o2) ∧ Hid (Below w.heap.size w wx)) (fun q _ => 4 - (intOf q).toNat)
                case atStart => exact ⟨1, rfl, by omega, by omega, HSA.out, HNA.out, HBA.out⟩
                case round =>
                  clear HSA HNA HBA
                  obtain ⟨q, rfl, hq1, hq4, hS, hNi, hB⟩ := hrel
                  by_cases hqq : q < 4
                  · have e0 := (hNi.out.at 0 (by decide)).1
                    have e1 := (hNi.out.at 1 (by decide)).1
                    have e2 := (hNi.out.at 2 (by decide)).1
                    have e3 := (hNi.out.at 3 (by decide)).1
                    have hqi : (q : Int) < 4 := by omega
                    go_wp2_with fail
                    go_loopw [19, 169] (fun nv iv wx => ∃ j : Nat, iv = .int .i64 j ∧ nv = .int .i64 (heldK o2 q j : Nat) ∧ j ≤ 4 ∧ wr = wx) (fun _ i _ => 4 - (intOf i).toNat)
                    case atStart => exact ⟨0, rfl, rfl, by omega, rfl⟩
                    case round =>
                      obtain ⟨j, rfl, rfl, hj, rfl⟩ := hrel
                      have hle := held_le o2 q j
                      by_cases hj4 : j < 4
                      · have hix := idx28 o2 wr j hj4
                        unfold numsI at hix
                        have hsc := held_succ o2 q j
                        have hof : ofL (o2 j) q = (o2 j == (q : Int)) := by unfold ofL; rw [decide_eq_true (by omega : (0 : Int) < (q : Int)), Bool.true_and]
                        rw [hof] at hsc
                        obtain ⟨n2, hn2⟩ : ∃ n2, heldK o2 q (j + 1) = n2 := ⟨_, rfl⟩
                        rw [hn2] at hsc
                        have HN2 := Lib.hid hn2
                        obtain ⟨n1, hn1⟩ : ∃ n1, heldK o2 q j = n1 := ⟨_, rfl⟩
                        rw [hn1] at hsc hle ⊢
                        obtain ⟨oj, hoj⟩ : ∃ oj, o2 j = oj := ⟨_, rfl⟩
                        rw [hoj] at hix hsc
                        clear hof hn2 hn1 hoj
                        cases hqo : (oj == (q : Int)) with
                        | true =>
                          rw [hqo, if_pos rfl] at hsc
                          have HSC := Lib.hid hsc
                          clear hsc
                          go_wp2_with fail
                          exact ⟨⟨j + 1, by simp, by rw [HN2.out, HSC.out]; simp, by omega, trivial⟩, by simp [intOf]; omega⟩
                        | false =>
                          rw [hqo] at hsc
                          have HSC : Hid (n2 = n1) := by show n2 = n1; simpa using hsc
                          clear hsc
                          go_wp2_with fail
                          exact ⟨⟨j + 1, by simp, by rw [HN2.out, HSC.out], by omega, trivial⟩, by simp [intOf]; omega⟩
                      · have hj' : j = 4 := by omega
                        obtain ⟨nq, hnq⟩ : ∃ nq, heldK o2 q 4 = nq := ⟨_, rfl⟩
                        have hnj : heldK o2 q j = nq := by rw [hj']; exact hnq
                        rw [hnj] at hle ⊢
                        have hle4 : nq ≤ 4 := by omega
                        by_cases hn4 : nq = 4
                        · have hl4 : ∀ i, i < 4 → (m2 i).length ≤ 1000 := fun i hi => by have := HIA.out.len i hi; omega
                          have HLO := Lib.hid (list_ok G bs o2 m2 q ⟨#[]⟩ wr hS.out (by rw [hnq]; exact hn4) hl4 (fun i hi q hq => by have h1 := (HIA.out.right i hi q hq).1; unfold rightL at h1; simp at h1; omega) (by decide))
                          have HHE := Lib.hid (fun wx (hs : StAt wx G bs o2 m2) => held_any G bs o2 m2 q wx hs)
                          rw [hnq] at HHE
                          subst hn4
                          clear hl4 hnq hnj hj' hle hj
                          go_wp2_with fail
                          refine HLO.out.mono ?_
                          rintro e x9 ⟨L, AL, cL, rfl, _, _, hb9⟩
                          have HS9 := Lib.hid (hS.out.on hb9)
                          have HN9 : Hid (Ni x9 P o2) := (hb9.block P (blk_lt hNi.out)).trans hNi.out
                          have HX9 := Lib.hid (bt hB.out hb9)
                          clear hb9
                          go_wp2_with fail
                          refine (HHE.out _ HS9.out).mono ?_
                          rintro e x10 ⟨rfl, rfl⟩
                          go_wp2_with fail
                          exact ⟨⟨q + 1, by simp, by omega, by omega, HS9.out, HN9.out, HX9.out⟩, by simp [intOf]; omega⟩
                        · have HLO := Lib.hid (list_wait G bs o2 m2 q ⟨#[]⟩ wr hS.out (by rw [hnq]; omega))
                          have HHE := Lib.hid (fun wx (hs : StAt wx G bs o2 m2) => held_any G bs o2 m2 q wx hs)
                          rw [hnq] at HHE
                          have hnb : ((nq : Int) == 4) = false := by rw [beq_eq_false_iff_ne]; omega
                          clear hnq hnj hj' hle hj hn4
                          go_wp2_with fail
                          refine HLO.out.mono ?_
                          rintro e x9 ⟨rfl, rfl⟩
                          go_wp2_with fail
                          refine (HHE.out _ hS.out).mono ?_
                          rintro e x10 ⟨rfl, rfl⟩
                          go_wp2_with fail
                          exact ⟨⟨q + 1, by simp, by omega, by omega, hS.out, hNi.out, hB.out⟩, by simp [intOf]; omega⟩
                  · go_wp2_with fail
                    exact ⟨⟨k + 1, o2, m2, _, by simp, by omega, hS.out, HIA.out, hNi.out, hB.out⟩, by simp [intOf]; omega⟩
      · have HH0 := Lib.hid (held_any G bs o m 0 wr hS.out)
        have HH1 := Lib.hid (held_any G bs o m (-1) wr hS.out)
        have e0 : heldK o 0 4 = 0 := by simp [heldK, ofL]
        have e1 : heldK o (-1) 4 = 0 := by simp [heldK, ofL]
        rw [e0] at HH0
        rw [e1] at HH1
        clear e0 e1
        go_wp2_with fail
        refine HH0.out.mono ?_
        rintro e w7 ⟨rfl, rfl⟩
        go_wp2_with fail
        refine HH1.out.mono ?_
        rintro e w7 ⟨rfl, rfl⟩
        go_wp2_with fail
        go_ret
        exact ⟨rfl, hB.out⟩
end Go.Proofs.YtilhegdhbcmlkaaDoor
