/- The contract of Swap. -/
import Derived.Test.YtgfjkpfjajjidaaDoorHoNew
namespace Go.Proofs.YtgfjkpfjajjidaaDoor
open Go.RowKit Pl

set_option maxRecDepth 100000 in
set_option maxHeartbeats 8000000 in
theorem swap_ok (G : Nat) (v A : Option Addr) (n c k : Nat) (s : ByteArray) (L : List Rt) (w : World) (hB : HoBk w G 77 v A n c k) (hk : k ≤ 1000000) (hL : Law L)
    (hP : Calls Tryd.prog 14 #[.string s] w fun e w' => ∃ v, e = .returned (.tuple #[v, .int .i64 0]) ∧ w'.ownsRow w.heap.size 31 3 v L.length (rtCells L) ∧ Below w.heap.size w w') :
    Calls Tryd.prog 16 #[.pointer (some ⟨G, 0, none⟩), .string s] w fun e w' => ∃ v' A' c', e = .returned (.tuple #[.int .i64 (k + 1 : Nat), .int .i64 0]) ∧ HoAt w' G v' A' L.length c' L (k + 1) ∧ Swp G w w' := by
  have HP := Lib.hid hP
  have HG := Lib.hid hB.lt
  have HBX := Lib.hid (fun wx (h : Below w.heap.size w wx) => hB.on h)
  have HTK := Lib.hid (fun A c wx hr => taken_any (k + 1) L A c wx hr hL)
  rw [show ((k + 1 : Nat) : Int) = (k : Int) + 1 from rfl] at HTK
  have hk2 : (k : Int) + 1 ≤ 1000001 := by omega
  have hk3 : (0 : Int) ≤ (k : Int) + 1 := by omega
  have HMK := Lib.hid (fun (W : World) (g c : Nat) (A : Option Addr) h1 h2 h3 h4 h5 h6 => snAt_mk (w := W) (G := G) (g := g) (c := c) (A := A) (l := L) h1 h2 h3 h4 h5 h6)
  have hkk : ((k + 1 : Nat) : Int) = (k : Int) + 1 := rfl
  rw [hkk]
  clear hP hB hL hk hkk
  generalize hcs : rtCells L = cs at *
  clear hcs
  generalize hn2 : L.length = n2 at *
  have HN2 := Lib.hid hn2
  clear hn2
  generalize hkz : (k : Int) = kz at *
  have HKZ : Hid ((k + 1 : Nat) = kz + 1) := by show _ = _; rw [← hkz]; rfl
  clear hkz
  go_enter Tryd.func16, Tryd.ntmps16
  go_wp2_with fail
  refine HP.out.mono ?_
  rintro e w1 ⟨sv, rfl, hown, hb1⟩
  obtain ⟨A1, c1, rfl, hr1⟩ := Rd.own hown
  have HB1 := Lib.hid hb1
  have hk1 := HBX.out _ hb1
  have x1 : w1.cell? ⟨G, 1, none⟩ = some (.int .i64 kz) := by rw [Lib.cell_of_heap hk1]; rfl
  have HTA := Lib.hid (HTK.out A1 c1 w1 hr1)
  clear hown hb1 hr1 hk1
  go_wp2_with fail
  refine HTA.out.mono ?_
  rintro e w2 ⟨g, A', c', rfl, ht, hg, hc, hr, hb2, hy, hty⟩
  have HB2 := Lib.hid (bt HB1.out hb2)
  have hk2b := HBX.out _ HB2.out
  have r0 : w2.cell? ⟨G, 0, none⟩ = some (.pointer v) := by rw [Lib.cell_of_heap hk2b]; rfl
  have r1 : w2.cell? ⟨G, 1, none⟩ = some (.int .i64 kz) := by rw [Lib.cell_of_heap hk2b]; rfl
  have r2 : w2.cell? ⟨G, 2, none⟩ = some (.slice A n c) := by rw [Lib.cell_of_heap hk2b]; rfl
  have z0 : w2.frozen? ⟨G, 0, none⟩ = false := Lib.frozen_of_heap hk2b 0
  have z1 : w2.frozen? ⟨G, 1, none⟩ = false := Lib.frozen_of_heap hk2b 1
  have z2 : w2.frozen? ⟨G, 2, none⟩ = false := Lib.frozen_of_heap hk2b 2
  have hne : g ≠ G := by have := HG.out; have := HB1.out.size; omega
  have HT := Lib.hid (tr_putT ht (fun a e => by cases e; exact hne) hk2b (by decide) (by decide) (by decide) (by decide) (.pointer (some ⟨g, 0, none⟩)) (.int .i64 (kz + 1)) (.slice A' n2 c'))
  have HY : Hid (∃ cs fr, (put3 w2 G (.pointer (some ⟨g, 0, none⟩)) (.int .i64 (kz + 1)) (.slice A' n2 c')).heap[g]? = some (.cells cs 60 fr)) := oth_put hy hne
  have HR := Lib.hid (rdt_put hr hty hk2b (by decide) (.pointer (some ⟨g, 0, none⟩)) (.int .i64 (kz + 1)) (.slice A' n2 c'))
  have HK2 := Lib.hid hk2b
  have HNE := Lib.hid hne
  have HC := Lib.hid hc
  clear ht hg hc hr hb2 hk2b x1 hne hy hty
  go_wp2_with fail
  go_ret2
  exact ⟨some ⟨g, 0, none⟩, A', c', rfl, ⟨by show _ = _; rw [HKZ.out]; exact put3_blk HK2.out _ _ _, HMK.out _ g c' A' HT.out HNE.out HR.out.1 HC.out HY.out HR.out.2⟩, w2, HB2.out, .inr ⟨_, _, _, rfl⟩⟩

set_option maxRecDepth 100000 in
set_option maxHeartbeats 4000000 in
theorem swap_bad (G : Nat) (s : ByteArray) (K : Int) (hK : K ≠ 0) (w : World) 
    (hP : Calls Tryd.prog 14 #[.string s] w fun e w' => ∃ v, e = .returned (.tuple #[v, .int .i64 K]) ∧ Below w.heap.size w w') :
    Calls Tryd.prog 16 #[.pointer (some ⟨G, 0, none⟩), .string s] w fun e w' => e = .returned (.tuple #[.int .i64 0, .int .i64 K]) ∧ Below w.heap.size w w' := by
  have HP := Lib.hid hP
  have hKb : (!(K == 0)) = true := by simp [hK]
  have hKc : (K == 0) = false := by simp [hK]
  clear hP
  go_enter Tryd.func16, Tryd.ntmps16
  go_wp2_with fail
  refine HP.out.mono ?_
  rintro e w1 ⟨sv, rfl, hb1⟩
  have HB1 := Lib.hid hb1
  clear hb1
  go_wp2_with fail
  go_ret2
  exact ⟨rfl, HB1.out⟩

theorem swap_any (G : Nat) (v A : Option Addr) (n c k : Nat) (l : List Rt) (s : ByteArray) (w : World) (h : HoAt w G v A n c l k) (hw : HB w) (hs : s.size ≤ 10000) (hk : k ≤ 1000000) :
    Calls Tryd.prog 16 #[.pointer (some ⟨G, 0, none⟩), .string s] w fun e w' => ∃ v' A' n' c', e = .returned (.tuple #[.int .i64 (swapN s.data.toList k : Nat), .int .i64 (parseL s.data.toList).2]) ∧ HoAt w' G v' A' n' c' (swapL s.data.toList l) (swapV s.data.toList k) ∧ Swp G w w' := by
  have hp := parse_any s w hw hs
  by_cases h0 : (parseL s.data.toList).2 = 0
  · unfold swapN swapL swapV
    rw [if_pos h0, if_pos h0, if_pos h0, h0]
    rw [h0] at hp
    refine (swap_ok G v A n c k s (parseL s.data.toList).1 w h.bk hk (law_parse _ (by rw [data_len]; exact hs) h0) hp).mono ?_
    rintro e w' ⟨v', A', c', he, ha, hs⟩
    exact ⟨v', A', _, c', he, ha, hs⟩
  · unfold swapN swapL swapV
    rw [if_neg h0, if_neg h0, if_neg h0]
    refine (swap_bad G s _ h0 w (hp.mono fun e w' ⟨u, he, _, hb⟩ => ⟨u, he, hb⟩)).mono ?_
    rintro e w' ⟨he, hb⟩
    exact ⟨v, A, n, c, he, h.on hb, w', hb, .inl rfl⟩
end Go.Proofs.YtgfjkpfjajjidaaDoor
