/- The tree in memory: nodes, and the changes that make other nodes of them. -/
import Derived.Test.YtgfjkpfjajjidaaDoorTrPlain
import Derived.Test.YtgfjkpfjajjidaaDoorPtBase
namespace Go.Proofs.YtgfjkpfjajjidaaDoor
open Go.RowKit Pl

/-- An end in a row: its segments lie elsewhere. -/
abbrev EnR := En × Value
def enV (x : EnR) : List Value := [.string (mkB x.1.m), .string (mkB x.1.h), x.2]
def enCells (l : List EnR) : List Value := l.flatMap enV
theorem en_cons (a : EnR) (l : List EnR) : enCells (a :: l) = enV a ++ enCells l := rfl
theorem en_app (a b : List EnR) : enCells (a ++ b) = enCells a ++ enCells b := List.flatMap_append
theorem en_len (l : List EnR) : (enCells l).length = l.length * 3 := by
  induction l with
  | nil => rfl
  | cons a l ih => rw [en_cons, List.length_append, ih]; simp [enV]; omega
theorem en_at : ∀ (l : List EnR) (i : Nat) (hi : i < l.length) (j : Nat), j < 3 → (enCells l)[i * 3 + j]? = (enV l[i])[j]?
  | a :: l, 0, _, j, hj => by
    rw [en_cons, Nat.zero_mul, Nat.zero_add, List.getElem?_append_left (by simp [enV]; omega)]
    rfl
  | a :: l, i + 1, hi, j, hj => by
    have hl : (enV a).length = 3 := rfl
    rw [en_cons, List.getElem?_append_right (by rw [hl]; omega), hl]
    have e : (i + 1) * 3 + j - 3 = i * 3 + j := by omega
    rw [e, en_at l i (by simpa using hi) j hj]
    rfl

/-- A branch in a row. -/
abbrev BrR := Seg × Option Addr
def brV (x : BrR) : List Value := [.string (mkB x.1), .pointer x.2]
def brCells (l : List BrR) : List Value := l.flatMap brV
theorem br_cons (a : BrR) (l : List BrR) : brCells (a :: l) = brV a ++ brCells l := rfl
theorem br_app (a b : List BrR) : brCells (a ++ b) = brCells a ++ brCells b := List.flatMap_append
theorem br_len (l : List BrR) : (brCells l).length = l.length * 2 := by
  induction l with
  | nil => rfl
  | cons a l ih => rw [br_cons, List.length_append, ih]; simp [brV]; omega
theorem br_at : ∀ (l : List BrR) (i : Nat) (hi : i < l.length) (j : Nat), j < 2 → (brCells l)[i * 2 + j]? = (brV l[i])[j]?
  | a :: l, 0, _, j, hj => by
    rw [br_cons, Nat.zero_mul, Nat.zero_add, List.getElem?_append_left (by simp [brV]; omega)]
    rfl
  | a :: l, i + 1, hi, j, hj => by
    have hl : (brV a).length = 2 := rfl
    rw [br_cons, List.getElem?_append_right (by rw [hl]; omega), hl]
    have e : (i + 1) * 2 + j - 2 = i * 2 + j := by omega
    rw [e, br_at l i (by simpa using hi) j hj]
    rfl

/-- Of what type the block of a slice is. -/
def Ty (w : World) (e : TypeId) (A : Option Addr) (n : Nat) : Prop := n ≠ 0 → ∀ a, A = some a → ∃ cs fr, w.heap[a.block]? = some (.cells cs e fr)
def RdT (w : World) (B k : Nat) (e : TypeId) (A : Option Addr) (n : Nat) (xs : List Value) : Prop := Rd w B k A n xs ∧ Ty w e A n
theorem RdT.block {w w' : World} {B k n : Nat} {e : TypeId} {A : Option Addr} {xs : List Value} (h : RdT w B k e A n xs) (hb : ∀ j, j < B → w'.heap[j]? = w.heap[j]?) : RdT w' B k e A n xs := by
  refine ⟨h.1.block hb, fun hn a ha => ?_⟩
  obtain ⟨a', e', hl, _⟩ := h.1.2 hn
  rw [ha] at e'; cases e'
  obtain ⟨cs, fr, hh⟩ := h.2 hn a ha
  exact ⟨cs, fr, (hb _ hl).trans hh⟩
theorem RdT.below {w w' : World} {B C k n : Nat} {e : TypeId} {A : Option Addr} {xs : List Value} (h : RdT w B k e A n xs) (hb : Below C w w') (hB : B ≤ C) : RdT w' B k e A n xs := h.block fun j hj => hb.block j (by omega)
theorem RdT.wide {w : World} {B C k n : Nat} {e : TypeId} {A : Option Addr} {xs : List Value} (h : RdT w B k e A n xs) (hB : B ≤ C) : RdT w C k e A n xs := ⟨h.1.wide hB, h.2⟩
theorem RdT.none (w : World) (B k : Nat) (e : TypeId) : RdT w B k e Option.none 0 [] := ⟨⟨by simp, fun h => absurd rfl h⟩, fun h => absurd rfl h⟩
theorem RdT.own {w : World} {base k n : Nat} {e : TypeId} {v : Value} {xs : List Value} (h : w.ownsRow base e k v n xs) : ∃ A c, v = .slice A n c ∧ n ≤ c ∧ RdT w w.heap.size k e A n xs := by
  obtain ⟨A, c, e1, h1⟩ := Rd.own h
  refine ⟨A, c, e1, ?_, h1, fun hn a ha => ?_⟩
  · rcases h.2 with ⟨h2, h3⟩ | ⟨g, cap, cur, h2, _, _, h3, _⟩
    · omega
    · rw [h2] at e1; cases e1; exact h3
  · rcases h.2 with ⟨h2, h3⟩ | ⟨g, cap, cur, h2, _, hh, _⟩
    · omega
    · rw [h2] at e1; cases e1; cases ha; exact ⟨_, _, hh⟩

/-- Where an end's segments lie. -/
def EnAt (w : World) (B : Nat) (x : EnR) : Prop := ∃ A c, x.2 = .slice A x.1.s.length c ∧ x.1.s.length ≤ 1000 ∧ RdT w B 1 9 A x.1.s.length (x.1.s.map strV)
theorem EnAt.block {w w' : World} {B : Nat} {x : EnR} (h : EnAt w B x) (hb : ∀ j, j < B → w'.heap[j]? = w.heap[j]?) : EnAt w' B x := by
  obtain ⟨A, c, e, hn, hr⟩ := h
  exact ⟨A, c, e, hn, hr.block hb⟩
theorem EnAt.below {w w' : World} {B C : Nat} {x : EnR} (h : EnAt w B x) (hb : Below C w w') (hB : B ≤ C) : EnAt w' B x := by
  obtain ⟨A, c, e, hn, hr⟩ := h
  exact ⟨A, c, e, hn, hr.below hb hB⟩
theorem EnAt.wide {w : World} {B C : Nat} {x : EnR} (h : EnAt w B x) (hB : B ≤ C) : EnAt w C x := by
  obtain ⟨A, c, e, hn, hr⟩ := h
  exact ⟨A, c, e, hn, hr.wide hB⟩

/-- A node: nil, or four cells: the ends, the branches, and two nodes more. -/
inductive Nd (w : World) (B : Nat) : Option Addr → List It → Prop
  | nil : Nd w B none []
  | node (g : Nat) (EA WA : Option Addr) (ec wc : Nat) (pv rv : Option Addr) (es : List EnR) (ws : List BrR) (L : List It)
    (hg : g < B) (ht : ∃ cs fr, w.heap[g]? = some (.cells cs 88 fr))
    (c0 : w.cell? ⟨g, 0, none⟩ = some (.slice EA es.length ec)) (c1 : w.cell? ⟨g, 1, none⟩ = some (.slice WA ws.length wc)) (c2 : w.cell? ⟨g, 2, none⟩ = some (.pointer pv)) (c3 : w.cell? ⟨g, 3, none⟩ = some (.pointer rv))
    (he : RdT w B 3 67 EA es.length (enCells es)) (hee : ∀ x ∈ es, EnAt w B x) (heL : es.map (·.1) = endsL L) (hec : es.length ≤ ec)
    (hw : RdT w B 2 107 WA ws.length (brCells ws)) (hwn : (ws.map (·.1)).Nodup) (hwl : ws.length ≤ L.length) (hwc : ws.length ≤ wc) (hwa : ∀ s, wsub s L ≠ [] → s ∈ ws.map (·.1))
    (hwt : ∀ x, x ∈ ws → Nd w B x.2 (wsub x.1 L))
    (hp : Nd w B pv (ksub 1 L)) (hr : Nd w B rv (ksub 2 L)) : Nd w B (some ⟨g, 0, none⟩) L

theorem Nd.block {w w' : World} {B : Nat} {v : Option Addr} {L : List It} (h : Nd w B v L) (hb : ∀ j, j < B → w'.heap[j]? = w.heap[j]?) : Nd w' B v L := by
  induction h with
  | nil => exact .nil
  | node g EA WA ec wc pv rv es ws L hg ht c0 c1 c2 c3 he hee heL hec hw hwn hwl hwc hwa _ _ _ iw ip ir =>
    have hc : ∀ j u, w.cell? ⟨g, j, none⟩ = some u → w'.cell? ⟨g, j, none⟩ = some u := fun j u h => (World.cell?_of_block (hb g hg)).trans h
    exact .node g EA WA ec wc pv rv es ws L hg (ht.imp fun cs h => h.imp fun fr h => (hb g hg).trans h) (hc _ _ c0) (hc _ _ c1) (hc _ _ c2) (hc _ _ c3) (he.block hb) (fun x hx => (hee x hx).block hb) heL hec (hw.block hb) hwn hwl hwc hwa iw ip ir
theorem Nd.keep {w w' : World} {B C : Nat} {v : Option Addr} {L : List It} (h : Nd w B v L) (hb : Below C w w') (hB : B ≤ C) : Nd w' B v L := h.block fun j hj => hb.block j (by omega)
theorem Nd.wide {w : World} {B C : Nat} {v : Option Addr} {L : List It} (h : Nd w B v L) (hB : B ≤ C) : Nd w C v L := by
  induction h with
  | nil => exact .nil
  | node g EA WA ec wc pv rv es ws L hg ht c0 c1 c2 c3 he hee heL hec hw hwn hwl hwc hwa _ _ _ iw ip ir =>
    exact .node g EA WA ec wc pv rv es ws L (by omega) ht c0 c1 c2 c3 (he.wide hB) (fun x hx => (hee x hx).wide hB) heL hec (hw.wide hB) hwn hwl hwc hwa iw ip ir
theorem Nd.on {w w' : World} {v : Option Addr} {L : List It} (h : Nd w w.heap.size v L) (hb : Below w.heap.size w w') : Nd w' w'.heap.size v L :=
  (h.keep hb (Nat.le_refl _)).wide hb.size

/-- What a node's four cells say. -/
structure Nn (w : World) (B : Nat) (EA WA : Option Addr) (en wn ec wc : Nat) (pv rv : Option Addr) (es : List EnR) (ws : List BrR) (L : List It) : Prop where
  hen : en = es.length
  hwm : wn = ws.length
  he : RdT w B 3 67 EA en (enCells es)
  hee : ∀ x ∈ es, EnAt w B x
  heL : es.map (·.1) = endsL L
  hec : en ≤ ec
  hw : RdT w B 2 107 WA wn (brCells ws)
  hwn : (ws.map (·.1)).Nodup
  hwl : ws.length ≤ L.length
  hwc : wn ≤ wc
  hwa : ∀ s, wsub s L ≠ [] → s ∈ ws.map (·.1)
  hwt : ∀ x, x ∈ ws → Nd w B x.2 (wsub x.1 L)
  hp : Nd w B pv (ksub 1 L)
  hr : Nd w B rv (ksub 2 L)

theorem Nn.block {w w' : World} {B : Nat} {EA WA : Option Addr} {en wn ec wc : Nat} {pv rv : Option Addr} {es : List EnR} {ws : List BrR} {L : List It} (h : Nn w B EA WA en wn ec wc pv rv es ws L) (hb : ∀ j, j < B → w'.heap[j]? = w.heap[j]?) : Nn w' B EA WA en wn ec wc pv rv es ws L :=
  ⟨h.hen, h.hwm, h.he.block hb, fun x hx => (h.hee x hx).block hb, h.heL, h.hec, h.hw.block hb, h.hwn, h.hwl, h.hwc, h.hwa, fun x hx => (h.hwt x hx).block hb, h.hp.block hb, h.hr.block hb⟩
theorem Nn.below {w w' : World} {B C : Nat} {EA WA : Option Addr} {en wn ec wc : Nat} {pv rv : Option Addr} {es : List EnR} {ws : List BrR} {L : List It} (h : Nn w B EA WA en wn ec wc pv rv es ws L) (hb : Below C w w') (hB : B ≤ C) : Nn w' B EA WA en wn ec wc pv rv es ws L :=
  ⟨h.hen, h.hwm, h.he.below hb hB, fun x hx => (h.hee x hx).below hb hB, h.heL, h.hec, h.hw.below hb hB, h.hwn, h.hwl, h.hwc, h.hwa, fun x hx => (h.hwt x hx).keep hb hB, h.hp.keep hb hB, h.hr.keep hb hB⟩
theorem Nn.wide {w : World} {B C : Nat} {EA WA : Option Addr} {en wn ec wc : Nat} {pv rv : Option Addr} {es : List EnR} {ws : List BrR} {L : List It} (h : Nn w B EA WA en wn ec wc pv rv es ws L) (hB : B ≤ C) : Nn w C EA WA en wn ec wc pv rv es ws L :=
  ⟨h.hen, h.hwm, h.he.wide hB, fun x hx => (h.hee x hx).wide hB, h.heL, h.hec, h.hw.wide hB, h.hwn, h.hwl, h.hwc, h.hwa, fun x hx => (h.hwt x hx).wide hB, h.hp.wide hB, h.hr.wide hB⟩
theorem Nn.on {w w' : World} {EA WA : Option Addr} {en wn ec wc : Nat} {pv rv : Option Addr} {es : List EnR} {ws : List BrR} {L : List It} (h : Nn w w.heap.size EA WA en wn ec wc pv rv es ws L) (hb : Below w.heap.size w w') : Nn w' w'.heap.size EA WA en wn ec wc pv rv es ws L :=
  (h.below hb (Nat.le_refl _)).wide hb.size

theorem Nn.void (w : World) (B : Nat) : Nn w B none none 0 0 0 0 none none [] [] [] :=
  ⟨rfl, rfl, RdT.none _ _ _ _, fun _ h => (by cases h), rfl, Nat.le_refl _, RdT.none _ _ _ _, List.nodup_nil, Nat.le_refl _, Nat.le_refl _, fun _ h => absurd rfl h, fun _ h => (by cases h), .nil, .nil⟩

/-- A node that is there. -/
theorem Nd.opened {w : World} {B : Nat} {v : Option Addr} {L : List It} (h : Nd w B v L) : (v = none ∧ L = []) ∨ ∃ g EA WA en wn ec wc pv rv es ws, v = some ⟨g, 0, none⟩ ∧ g < B ∧
    w.cell? ⟨g, 0, none⟩ = some (.slice EA en ec) ∧ w.cell? ⟨g, 1, none⟩ = some (.slice WA wn wc) ∧ w.cell? ⟨g, 2, none⟩ = some (.pointer pv) ∧ w.cell? ⟨g, 3, none⟩ = some (.pointer rv) ∧ Nn w B EA WA en wn ec wc pv rv es ws L := by
  cases h with
  | nil => exact .inl ⟨rfl, rfl⟩
  | node g EA WA ec wc pv rv es ws L hg ht c0 c1 c2 c3 he hee heL hec hw hwn hwl hwc hwa hwt hp hr =>
    exact .inr ⟨g, EA, WA, _, _, ec, wc, pv, rv, es, ws, rfl, hg, c0, c1, c2, c3, rfl, rfl, he, hee, heL, hec, hw, hwn, hwl, hwc, hwa, hwt, hp, hr⟩
theorem Nn.close {w : World} {B : Nat} {EA WA : Option Addr} {en wn ec wc : Nat} {pv rv : Option Addr} {es : List EnR} {ws : List BrR} {L : List It} (h : Nn w B EA WA en wn ec wc pv rv es ws L) {g : Nat} (hg : g < B) (ht : ∃ cs fr, w.heap[g]? = some (.cells cs 88 fr))
    (c0 : w.cell? ⟨g, 0, none⟩ = some (.slice EA en ec)) (c1 : w.cell? ⟨g, 1, none⟩ = some (.slice WA wn wc)) (c2 : w.cell? ⟨g, 2, none⟩ = some (.pointer pv)) (c3 : w.cell? ⟨g, 3, none⟩ = some (.pointer rv)) : Nd w B (some ⟨g, 0, none⟩) L := by
  obtain ⟨rfl, rfl, he, hee, heL, hec, hw, hwn, hwl, hwc, hwa, hwt, hp, hr⟩ := h
  exact .node g EA WA ec wc pv rv es ws L hg ht c0 c1 c2 c3 he hee heL hec hw hwn hwl hwc hwa hwt hp hr

/-- A route ends here, too. -/
theorem Nn.ending {w : World} {B : Nat} {EA WA : Option Addr} {en wn ec wc : Nat} {pv rv : Option Addr} {es : List EnR} {ws : List BrR} {L : List It} (h : Nn w B EA WA en wn ec wc pv rv es ws L) (x : EnR) (hx : EnAt w B x) (A : Option Addr) (c : Nat) (hc : en + 1 ≤ c)
    (hr : RdT w B 3 67 A (en + 1) (enCells (es ++ [x]))) : Nn w B A WA (en + 1) wn c wc pv rv (es ++ [x]) ws (L ++ [([], x.1)]) := by
  have e1 : ∀ s, wsub s (L ++ [([], x.1)]) = wsub s L := fun s => by rw [wsub_app]; simp [wsub, wgo]
  have e2 : ∀ k, ksub k (L ++ [([], x.1)]) = ksub k L := fun k => by rw [ksub_app]; simp [ksub, kgo]
  refine ⟨by rw [h.hen]; simp, h.hwm, hr, ?_, ?_, hc, h.hw, h.hwn, by have := h.hwl; simp; omega, h.hwc, ?_, ?_, by rw [e2]; exact h.hp, by rw [e2]; exact h.hr⟩
  · intro y hy
    rcases List.mem_append.1 hy with hy | hy
    · exact h.hee y hy
    · simp at hy; subst hy; exact hx
  · rw [List.map_append, h.heL, ends_app]; rfl
  · intro s hs; rw [e1] at hs; exact h.hwa s hs
  · intro y hy; rw [e1]; exact h.hwt y hy
/-- A route goes on behind a name, or a rest. -/
theorem Nn.one {w : World} {B : Nat} {EA WA : Option Addr} {en wn ec wc : Nat} {pv rv : Option Addr} {es : List EnR} {ws : List BrR} {L : List It} (h : Nn w B EA WA en wn ec wc pv rv es ws L) (s : Seg) (ss : List Seg) (e : En) (hk : kd s = 1) (pv' : Option Addr)
    (hp : Nd w B pv' (ksub 1 L ++ [(ss, e)])) : Nn w B EA WA en wn ec wc pv' rv es ws (L ++ [(s :: ss, e)]) := by
  have e1 : ∀ t, wsub t (L ++ [(s :: ss, e)]) = wsub t L := fun t => by rw [wsub_app]; simp [wsub, wgo, hk]
  have e2 : ksub 1 (L ++ [(s :: ss, e)]) = ksub 1 L ++ [(ss, e)] := by rw [ksub_app]; simp [ksub, kgo, hk]
  have e3 : ksub 2 (L ++ [(s :: ss, e)]) = ksub 2 L := by rw [ksub_app]; simp [ksub, kgo, hk]
  have e4 : endsL (L ++ [(s :: ss, e)]) = endsL L := by rw [ends_app]; simp [endsL, ego]
  exact ⟨h.hen, h.hwm, h.he, h.hee, by rw [e4]; exact h.heL, h.hec, h.hw, h.hwn, by have := h.hwl; simp; omega, h.hwc, fun t ht => by rw [e1] at ht; exact h.hwa t ht, fun y hy => by rw [e1]; exact h.hwt y hy, by rw [e2]; exact hp, by rw [e3]; exact h.hr⟩
theorem Nn.all {w : World} {B : Nat} {EA WA : Option Addr} {en wn ec wc : Nat} {pv rv : Option Addr} {es : List EnR} {ws : List BrR} {L : List It} (h : Nn w B EA WA en wn ec wc pv rv es ws L) (s : Seg) (ss : List Seg) (e : En) (hk : kd s = 2) (rv' : Option Addr)
    (hr : Nd w B rv' (ksub 2 L ++ [(ss, e)])) : Nn w B EA WA en wn ec wc pv rv' es ws (L ++ [(s :: ss, e)]) := by
  have e1 : ∀ t, wsub t (L ++ [(s :: ss, e)]) = wsub t L := fun t => by rw [wsub_app]; simp [wsub, wgo, hk]
  have e2 : ksub 2 (L ++ [(s :: ss, e)]) = ksub 2 L ++ [(ss, e)] := by rw [ksub_app]; simp [ksub, kgo, hk]
  have e3 : ksub 1 (L ++ [(s :: ss, e)]) = ksub 1 L := by rw [ksub_app]; simp [ksub, kgo, hk]
  have e4 : endsL (L ++ [(s :: ss, e)]) = endsL L := by rw [ends_app]; simp [endsL, ego]
  exact ⟨h.hen, h.hwm, h.he, h.hee, by rw [e4]; exact h.heL, h.hec, h.hw, h.hwn, by have := h.hwl; simp; omega, h.hwc, fun t ht => by rw [e1] at ht; exact h.hwa t ht, fun y hy => by rw [e1]; exact h.hwt y hy, by rw [e3]; exact h.hp, by rw [e2]; exact hr⟩

/-- The branches with one changed, or one more. -/
def brGo (s : Seg) (ws : List BrR) (k : Nat) (v : Option Addr) : List BrR := ws.take k ++ [(s, v)] ++ ws.drop (k + 1)
/-- Branches that go with a word more. -/
def BrOk (w : World) (B : Nat) (ws : List BrR) (L : List It) : Prop :=
  (ws.map (·.1)).Nodup ∧ ws.length ≤ L.length ∧ (∀ s, wsub s L ≠ [] → s ∈ ws.map (·.1)) ∧ ∀ x, x ∈ ws → Nd w B x.2 (wsub x.1 L)
theorem Nn.br {w : World} {B : Nat} {EA WA : Option Addr} {en wn ec wc : Nat} {pv rv : Option Addr} {es : List EnR} {ws : List BrR} {L : List It} (h : Nn w B EA WA en wn ec wc pv rv es ws L) : BrOk w B ws L := ⟨h.hwn, h.hwl, h.hwa, h.hwt⟩
theorem wsub_word {s : Seg} (hk : kd s = 0) (t : Seg) (L : List It) (ss : List Seg) (e : En) : wsub t (L ++ [(s :: ss, e)]) = wsub t L ++ if s = t then [(ss, e)] else [] := by
  rw [wsub_app]
  congr 1
  simp only [wsub, List.filterMap_cons, List.filterMap_nil, wgo, hk, true_and]
  split <;> simp_all
theorem Nn.word {w : World} {B : Nat} {EA WA : Option Addr} {en wn ec wc : Nat} {pv rv : Option Addr} {es : List EnR} {ws : List BrR} {L : List It} (h : Nn w B EA WA en wn ec wc pv rv es ws L) (s : Seg) (ss : List Seg) (e : En) (hk : kd s = 0)
    (WA' : Option Addr) (wn' wc' : Nat) (ws' : List BrR) (hn : wn' = ws'.length) (hr : RdT w B 2 107 WA' wn' (brCells ws')) (hc : wn' ≤ wc') (hb : BrOk w B ws' (L ++ [(s :: ss, e)])) : Nn w B EA WA' en wn' ec wc' pv rv es ws' (L ++ [(s :: ss, e)]) := by
  have e2 : ksub 2 (L ++ [(s :: ss, e)]) = ksub 2 L := by rw [ksub_app]; simp [ksub, kgo, hk]
  have e3 : ksub 1 (L ++ [(s :: ss, e)]) = ksub 1 L := by rw [ksub_app]; simp [ksub, kgo, hk]
  have e4 : endsL (L ++ [(s :: ss, e)]) = endsL L := by rw [ends_app]; simp [endsL, ego]
  exact ⟨h.hen, hn, h.he, h.hee, by rw [e4]; exact h.heL, h.hec, hr, hb.1, hb.2.1, hc, hb.2.2.1, hb.2.2.2, by rw [e3]; exact h.hp, by rw [e2]; exact h.hr⟩
theorem BrOk.block {w w' : World} {B : Nat} {ws : List BrR} {L : List It} (h : BrOk w B ws L) (hb : ∀ j, j < B → w'.heap[j]? = w.heap[j]?) : BrOk w' B ws L := ⟨h.1, h.2.1, h.2.2.1, fun x hx => (h.2.2.2 x hx).block hb⟩
theorem BrOk.below {w w' : World} {B C : Nat} {ws : List BrR} {L : List It} (h : BrOk w B ws L) (hb : Below C w w') (hB : B ≤ C) : BrOk w' B ws L := ⟨h.1, h.2.1, h.2.2.1, fun x hx => (h.2.2.2 x hx).keep hb hB⟩
theorem BrOk.wide {w : World} {B C : Nat} {ws : List BrR} {L : List It} (h : BrOk w B ws L) (hB : B ≤ C) : BrOk w C ws L := ⟨h.1, h.2.1, h.2.2.1, fun x hx => (h.2.2.2 x hx).wide hB⟩
theorem BrOk.on {w w' : World} {ws : List BrR} {L : List It} (h : BrOk w w.heap.size ws L) (hb : Below w.heap.size w w') : BrOk w' w'.heap.size ws L := (h.below hb (Nat.le_refl _)).wide hb.size
/-- The word is there. -/
theorem BrOk.change {w : World} {B : Nat} {ws : List BrR} {L : List It} (h : BrOk w B ws L) {s : Seg} (hk : kd s = 0) {ss : List Seg} {e : En} {k : Nat} (hlt : k < ws.length) (hs : ws[k].1 = s) {v : Option Addr} (hv : Nd w B v (wsub s L ++ [(ss, e)])) :
    BrOk w B (brGo s ws k v) (L ++ [(s :: ss, e)]) := by
  obtain ⟨h1, h2, h3, h4⟩ := h
  have hm : (brGo s ws k v).map (·.1) = ws.map (·.1) := by
    have hsp : ws = ws.take k ++ ws[k] :: ws.drop (k + 1) := by rw [List.getElem_cons_drop, List.take_append_drop]
    refine Eq.trans ?_ (congrArg (List.map (·.1)) hsp).symm
    simp only [brGo, List.map_append, List.map_cons, List.map_nil, hs, List.append_assoc, List.singleton_append]
  have hl : (brGo s ws k v).length = ws.length := by have := congrArg List.length hm; simpa using this
  refine ⟨by rw [hm]; exact h1, by rw [hl]; simp; omega, fun t ht => ?_, fun x hx => ?_⟩
  · rw [hm]
    rw [wsub_word hk] at ht
    by_cases e1 : s = t
    · subst e1; exact List.mem_map.2 ⟨ws[k], List.getElem_mem hlt, hs⟩
    · rw [if_neg e1, List.append_nil] at ht; exact h3 t ht
  · rw [wsub_word hk]
    have hnot : ∀ y ∈ ws.take k ++ ws.drop (k + 1), y ∈ ws ∧ y.1 ≠ s := by
      intro y hy
      have hsp : ws = ws.take k ++ ws[k] :: ws.drop (k + 1) := by rw [List.getElem_cons_drop, List.take_append_drop]
      rw [hsp, List.map_append, List.map_cons, List.nodup_append] at h1
      obtain ⟨_, h6, h7⟩ := h1
      rw [List.nodup_cons] at h6
      rcases List.mem_append.1 hy with hy | hy
      · refine ⟨List.mem_of_mem_take hy, fun e2 => ?_⟩
        exact h7 y.1 (List.mem_map.2 ⟨y, hy, rfl⟩) ws[k].1 (by simp) (by rw [e2, hs])
      · refine ⟨List.mem_of_mem_drop hy, fun e2 => ?_⟩
        exact h6.1 (by rw [hs, ← e2]; exact List.mem_map.2 ⟨y, hy, rfl⟩)
    simp only [brGo, List.mem_append, List.mem_singleton] at hx
    rcases hx with (hx | hx) | hx
    · have := hnot x (List.mem_append_left _ hx)
      rw [if_neg (fun e2 => this.2 e2.symm), List.append_nil]; exact h4 x this.1
    · subst hx; rw [if_pos rfl]; exact hv
    · have := hnot x (List.mem_append_right _ hx)
      rw [if_neg (fun e2 => this.2 e2.symm), List.append_nil]; exact h4 x this.1
/-- The word is new. -/
theorem BrOk.more {w : World} {B : Nat} {ws : List BrR} {L : List It} (h : BrOk w B ws L) {s : Seg} (hk : kd s = 0) {ss : List Seg} {e : En} (hs : s ∉ ws.map (·.1)) {v : Option Addr} (hv : Nd w B v [(ss, e)]) :
    BrOk w B (ws ++ [(s, v)]) (L ++ [(s :: ss, e)]) := by
  obtain ⟨h1, h2, h3, h4⟩ := h
  refine ⟨?_, by simp; omega, fun t ht => ?_, fun x hx => ?_⟩
  · rw [List.map_append, List.nodup_append]
    refine ⟨h1, by simp, ?_⟩
    intro a ha b hb hab
    simp at hb
    rw [hab, hb] at ha
    exact hs ha
  · rw [wsub_word hk] at ht
    rw [List.map_append, List.mem_append]
    by_cases e1 : s = t
    · right; simp [e1]
    · rw [if_neg e1, List.append_nil] at ht; exact .inl (h3 t ht)
  · rw [wsub_word hk]
    rcases List.mem_append.1 hx with hx | hx
    · have : x.1 ≠ s := fun e2 => hs (e2 ▸ List.mem_map.2 ⟨x, hx, rfl⟩)
      rw [if_neg (fun e2 => this e2.symm), List.append_nil]; exact h4 x hx
    · simp at hx; subst hx
      have : wsub s L = [] := Classical.byContradiction fun hne => hs (h3 s hne)
      rw [if_pos rfl, this]; exact hv

/-- A block of another type may be written. -/
theorem RdT.far {w W : World} {B k n G : Nat} {e t : TypeId} {A : Option Addr} {xs : List Value} (h : RdT w B k e A n xs) (hG : ∃ cs fr, w.heap[G]? = some (.cells cs t fr)) (hne : e ≠ t) (hW : ∀ j, j ≠ G → W.heap[j]? = w.heap[j]?) : RdT W B k e A n xs := by
  have hb : ∀ (a : Addr), n ≠ 0 → A = some a → a.block ≠ G := fun a hn ha hg => by
    obtain ⟨cs, fr, h1⟩ := h.2 hn a ha
    obtain ⟨cs', fr', h2⟩ := hG
    rw [hg, h2] at h1
    cases h1
    exact hne rfl
  refine ⟨⟨h.1.1, fun hn => ?_⟩, fun hn a ha => ?_⟩
  · obtain ⟨a, e1, hl, hc⟩ := h.1.2 hn
    exact ⟨a, e1, hl, fun j u hu => (World.cell?_of_block (hW _ (by rw [add_block]; exact hb a hn e1))).trans (hc j u hu)⟩
  · obtain ⟨cs, fr, h1⟩ := h.2 hn a ha
    exact ⟨cs, fr, (hW _ (hb a hn ha)).trans h1⟩
theorem EnAt.far {w W : World} {B G : Nat} {t : TypeId} {x : EnR} (h : EnAt w B x) (hG : ∃ cs fr, w.heap[G]? = some (.cells cs t fr)) (hne : 9 ≠ t) (hW : ∀ j, j ≠ G → W.heap[j]? = w.heap[j]?) : EnAt W B x := by
  obtain ⟨A, c, e, hn, hr⟩ := h
  exact ⟨A, c, e, hn, hr.far hG hne hW⟩
theorem Nd.far {w W : World} {B G : Nat} {t : TypeId} {v : Option Addr} {L : List It} (h : Nd w B v L) (hG : ∃ cs fr, w.heap[G]? = some (.cells cs t fr)) (h9 : 9 ≠ t) (h66 : 67 ≠ t) (h81 : 88 ≠ t) (h101 : 107 ≠ t) (hW : ∀ j, j ≠ G → W.heap[j]? = w.heap[j]?) : Nd W B v L := by
  induction h with
  | nil => exact .nil
  | node g EA WA ec wc pv rv es ws L hg ht c0 c1 c2 c3 he hee heL hec hw hwn hwl hwc hwa _ _ _ iw ip ir =>
    have hgG : g ≠ G := fun hg => by
      obtain ⟨cs, fr, h1⟩ := ht
      obtain ⟨cs', fr', h2⟩ := hG
      rw [hg, h2] at h1
      cases h1
      exact h81 rfl
    have hc : ∀ j u, w.cell? ⟨g, j, none⟩ = some u → W.cell? ⟨g, j, none⟩ = some u := fun j u h => (World.cell?_of_block (hW g hgG)).trans h
    exact .node g EA WA ec wc pv rv es ws L hg (ht.imp fun cs h => h.imp fun fr h => (hW g hgG).trans h) (hc _ _ c0) (hc _ _ c1) (hc _ _ c2) (hc _ _ c3) (he.far hG h66 hW) (fun x hx => (hee x hx).far hG h9 hW) heL hec (hw.far hG h101 hW) hwn hwl hwc hwa iw ip ir

/-- W is w but for what lies from B on up to C. -/
def Sp (B C : Nat) (w W : World) : Prop := w.heap.size ≤ W.heap.size ∧ ∀ j, (j < B ∨ C ≤ j) → j < w.heap.size → W.heap[j]? = w.heap[j]?
theorem Sp.refl (B C : Nat) (w : World) : Sp B C w w := ⟨Nat.le_refl _, fun _ _ _ => rfl⟩
theorem Sp.back {B C D : Nat} {w v W : World} (h : Sp B C v W) (hb : Below w.heap.size w v) (hD : C ≤ D) : Sp B D w W :=
  ⟨Nat.le_trans hb.size h.1, fun j hj hlt => (h.2 j (by omega) (by have := hb.size; omega)).trans (hb.block j hlt)⟩
theorem Sp.low {B C : Nat} {w W : World} (h : Sp B C w W) (hB : B ≤ w.heap.size) : ∀ j, j < B → W.heap[j]? = w.heap[j]? := fun j hj => h.2 j (.inl hj) (by omega)

/-- A change: an end, or what stands behind a segment. -/
inductive Chg (w : World) (B : Nat) : Value → List Seg → En → Prop
  | ending (g : Nat) (e : En) (v : Value) (hg : g < B) (c0 : w.cell? ⟨g, 0, none⟩ = some (.string (mkB e.m))) (c1 : w.cell? ⟨g, 1, none⟩ = some (.string (mkB e.h))) (c2 : w.cell? ⟨g, 2, none⟩ = some v) (hv : EnAt w B (e, v)) :
    Chg w B (.func (.func 48) #[] #[.pointer (some ⟨g, 0, none⟩)]) [] e
  | behind (g k : Nat) (s : Seg) (v : Value) (ss : List Seg) (e : En) (hg : g < B) (hk : k < B) (c0 : w.cell? ⟨g, 0, none⟩ = some (.string (mkB s))) (c1 : w.cell? ⟨k, 0, none⟩ = some v) (hv : Chg w B v ss e) :
    Chg w B (.func (.func 50) #[] #[.pointer (some ⟨g, 0, none⟩), .pointer (some ⟨k, 0, none⟩)]) (s :: ss) e
theorem Chg.keep {w w' : World} {B C : Nat} {v : Value} {ss : List Seg} {e : En} (h : Chg w B v ss e) (hb : Below C w w') (hB : B ≤ C) : Chg w' B v ss e := by
  induction h with
  | ending g e v hg c0 c1 c2 hv =>
    have hc : ∀ j u, w.cell? ⟨g, j, none⟩ = some u → w'.cell? ⟨g, j, none⟩ = some u := fun j u h => (hb.cell (p := ⟨g, j, none⟩) (by show g < C; omega)).trans h
    exact .ending g e v hg (hc _ _ c0) (hc _ _ c1) (hc _ _ c2) (hv.below hb hB)
  | behind g k s v ss e hg hk c0 c1 _ ih =>
    exact .behind g k s v ss e hg hk ((hb.cell (p := ⟨g, 0, none⟩) (by show g < C; omega)).trans c0) ((hb.cell (p := ⟨k, 0, none⟩) (by show k < C; omega)).trans c1) ih
theorem Chg.wide {w : World} {B C : Nat} {v : Value} {ss : List Seg} {e : En} (h : Chg w B v ss e) (hB : B ≤ C) : Chg w C v ss e := by
  induction h with
  | ending g e v hg c0 c1 c2 hv => exact .ending g e v (by omega) c0 c1 c2 (hv.wide hB)
  | behind g k s v ss e hg hk c0 c1 _ ih => exact .behind g k s v ss e (by omega) (by omega) c0 c1 ih
theorem Chg.on {w w' : World} {v : Value} {ss : List Seg} {e : En} (h : Chg w w.heap.size v ss e) (hb : Below w.heap.size w w') : Chg w' w'.heap.size v ss e := (h.keep hb (Nat.le_refl _)).wide hb.size
end Go.Proofs.YtgfjkpfjajjidaaDoor
