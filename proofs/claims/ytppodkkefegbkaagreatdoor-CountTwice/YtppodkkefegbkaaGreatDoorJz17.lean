/-
 The program's book in memory: four maps and a stock; what it keeps when other blocks are turned; what its maps answer at a name.
-/
import Derived.Test.YtppodkkefegbkaaGreatDoorQMap
import Derived.Test.YtppodkkefegbkaaGreatDoorJz14
import Derived.Test.YtppodkkefegbkaaGreatDoorJz11
set_option maxRecDepth 100000
set_option maxHeartbeats 16000000
namespace Go.Proofs.YtppodkkefegbkaaGreatDoor
open Go.RowKit Go.Lib Go.Sort
open Go.Maps (Keyed)
abbrev agG (g : Gd) : Value := .agg #[.string g.1, .int .i64 g.2]
abbrev agU (s : Su) : Value := .agg #[.int .i64 s.1, .int .i64 s.2.1, .int .i64 s.2.2.1, .int .i64 s.2.2.2]
abbrev agQ (l : Lo) : Value := .agg #[.string l.1, .string l.2.1, .int .i64 l.2.2.1, .int .i64 l.2.2.2]
def entG (g : Gs) : Ent := (.string g.1.1, agG g.1)
def entU (g : Gs) : Ent := (.string g.1.1, agU g.2)
def entL (l : Lh) : Ent := (.string l.1.1, agQ l.1)
def entH (l : Lh) : Ent := (.string l.1.1, .int .i64 l.2)
structure Bl where
 p : Nat
 g : Nat
 u : Nat
 l : Nat
 h : Nat
def Bl.all (x : Bl) : List Nat := [x.p, x.g, x.u, x.l, x.h]
structure BkAt (w : World) (B : Nat) (x : Bl) (ps bs : Nat) (b : Bk) : Prop where
 blk : w.heap[x.p]? = some (.cells #[.map (some x.g), .map (some x.u), .map (some x.l), .map (some x.h), .pointer (some ⟨ps, 0, none⟩)] 92 (0, 0))
 G : MapL Tryz.prog 9 w x.g (b.1.map entG)
 U : MapL Tryz.prog 9 w x.u (b.1.map entU)
 L : MapL Tryz.prog 9 w x.l (b.2.1.map entL)
 H : MapL Tryz.prog 9 w x.h (b.2.1.map entH)
 sblk : w.heap[ps]? = some (.cells #[.map (some bs)] 97 (0, 0))
 S : IsStock w ps bs b.2.2
 ok : BkOk b
 bp : B ≤ x.p
 bg : B ≤ x.g
 gu : x.g < x.u
 ul : x.u < x.l
 lh : x.l < x.h
 hs : x.h < bs
 bs : B ≤ ps
def IsBk (w : World) (B : Nat) (x : Bl) (b : Bk) : Prop := ∃ ps bs, BkAt w B x ps bs b
section
variable {w w' : World} {B : Nat} {x : Bl} {ps bs : Nat} {b : Bk}
theorem BkAt.lts (h : BkAt w B x ps bs b) : x.p < w.heap.size ∧ x.g < w.heap.size ∧ x.u < w.heap.size ∧ x.l < w.heap.size ∧ x.h < w.heap.size ∧ ps < w.heap.size ∧ bs < w.heap.size :=
 ⟨(Array.getElem?_eq_some_iff.1 h.blk).1, h.G.lt, h.U.lt, h.L.lt, h.H.lt, (Array.getElem?_eq_some_iff.1 h.sblk).1, h.S.lt.2⟩
theorem IsStock.of_blocks {p q : Nat} {m : List Ln} (h : IsStock w p q m) (h1 : w'.heap[p]? = w.heap[p]?) (h2 : w'.heap[q]? = w.heap[q]?) : IsStock w' p q m :=
 ⟨(World.cell?_of_block (a := ⟨p, 0, none⟩) h1).trans h.cell, h.map.of_block h2, h.wf⟩
theorem BkAt.of_blocks (h : BkAt w B x ps bs b) (hk : ∀ k, k = x.p ∨ k = x.g ∨ k = x.u ∨ k = x.l ∨ k = x.h ∨ k = ps ∨ k = bs → w'.heap[k]? = w.heap[k]?) : BkAt w' B x ps bs b where
 blk := (hk _ (by simp)).trans h.blk
 G := h.G.of_block (hk _ (by simp))
 U := h.U.of_block (hk _ (by simp))
 L := h.L.of_block (hk _ (by simp))
 H := h.H.of_block (hk _ (by simp))
 sblk := (hk _ (by simp)).trans h.sblk
 S := h.S.of_blocks (hk _ (by simp)) (hk _ (by simp))
 ok := h.ok
 bp := h.bp
 bg := h.bg
 gu := h.gu
 ul := h.ul
 lh := h.lh
 hs := h.hs
 bs := h.bs
theorem BkAt.low (h : BkAt w B x ps bs b) : ∀ k, k = x.p ∨ k = x.g ∨ k = x.u ∨ k = x.l ∨ k = x.h ∨ k = ps ∨ k = bs → B ≤ k ∧ k < w.heap.size := by
 have h1 := h.lts
 have := h.bp; have := h.bg; have := h.gu; have := h.ul; have := h.lh; have := h.hs; have := h.bs
 rintro k (rfl | rfl | rfl | rfl | rfl | rfl | rfl) <;> omega
theorem BkAt.all (h : BkAt w B x ps bs b) (hb : Below w.heap.size w w') : BkAt w' B x ps bs b := h.of_blocks fun k hk => hb.block k (h.low k hk).2
theorem IsBk.below (h : IsBk w B x b) (hb : Below w.heap.size w w') : IsBk w' B x b := by
 obtain ⟨ps, bs, h⟩ := h
 exact ⟨ps, bs, h.all hb⟩
theorem IsBk.off (h : IsBk w B x b) {y : List Nat} (hf : Off y w w') (hy : ∀ k ∈ y, k < B) : IsBk w' B x b := by
 obtain ⟨ps, bs, h⟩ := h
 exact ⟨ps, bs, h.of_blocks fun k hk => hf.block k (h.low k hk).2 fun e => by have := hy k e; have := (h.low k hk).1; omega⟩
theorem IsBk.ok (h : IsBk w B x b) : BkOk b := by
 obtain ⟨ps, bs, h⟩ := h
 exact h.ok
theorem IsBk.mono (h : IsBk w B x b) {B' : Nat} (hB : B' ≤ B) : IsBk w B' x b := by
 obtain ⟨ps, bs, h⟩ := h
 exact ⟨ps, bs, { h with bp := Nat.le_trans hB h.bp, bg := Nat.le_trans hB h.bg, bs := Nat.le_trans hB h.bs }⟩
theorem IsBk.low (h : IsBk w B x b) : ∀ k ∈ x.all, B ≤ k ∧ k < w.heap.size := by
 obtain ⟨ps, bs, h⟩ := h
 intro k hk
 unfold Bl.all at hk
 simp at hk
 exact h.low k (by rcases hk with h | h | h | h | h <;> simp [h])
theorem IsBk.base (h : IsBk w B x b) : B ≤ w.heap.size := by
 have := h.low x.p (by simp [Bl.all])
 omega
theorem BkAt.cells (h : BkAt w B x ps bs b) : w.cell? ⟨x.p, 0, none⟩ = some (.map (some x.g)) ∧ w.cell? ⟨x.p, 1, none⟩ = some (.map (some x.u)) ∧ w.cell? ⟨x.p, 2, none⟩ = some (.map (some x.l)) ∧ w.cell? ⟨x.p, 3, none⟩ = some (.map (some x.h)) ∧ w.cell? ⟨x.p, 4, none⟩ = some (.pointer (some ⟨ps, 0, none⟩)) ∧ ∀ o, w.frozen? ⟨x.p, o, none⟩ = false :=
 ⟨by rw [cell_of_heap h.blk]; rfl, by rw [cell_of_heap h.blk]; rfl, by rw [cell_of_heap h.blk]; rfl, by rw [cell_of_heap h.blk]; rfl, by rw [cell_of_heap h.blk]; rfl, fun o => frozen_of_heap h.blk o⟩
end
variable {α : Type}
def findN (f : α → ByteArray) (m : List α) (c : ByteArray) : Option α := m.find? (fun x => decide (f x = c))
theorem findN_cases (f : α → ByteArray) (m : List α) (c : ByteArray) : (findN f m c = none ∧ ∀ x ∈ m, f x ≠ c) ∨ ∃ x, findN f m c = some x ∧ x ∈ m ∧ f x = c := by
 unfold findN
 cases h : m.find? (fun x => decide (f x = c)) with
 | none => exact Or.inl ⟨rfl, fun x hx => by simpa using List.find?_eq_none.1 h x hx⟩
 | some x => exact Or.inr ⟨x, rfl, List.mem_of_find?_eq_some h, by simpa using List.find?_some h⟩
def zeroLo : Lo := (⟨#[]⟩, ⟨#[]⟩, 0, 0)
def lotAt (b : Bk) (c : ByteArray) : Lo := ((findN nameL b.2.1 c).map (·.1)).getD zeroLo
def isLot (b : Bk) (c : ByteArray) : Bool := (findN nameL b.2.1 c).isSome
theorem insC_perm (f : α → ByteArray) (m : List α) (x : α) : (insC f m x).Perm (x :: m) := by
 unfold insC
 refine List.perm_middle.trans ?_
 rw [List.take_append_drop]
end Go.Proofs.YtppodkkefegbkaaGreatDoor
namespace Go.Proofs.YtppodkkefegbkaaGreatDoor
open Go.RowKit Go.Lib Go.Sort
open Go.Maps (Keyed)
def EntSt (P : Program) (k t : TypeId) (W : World) (b : Nat) (key val : Value) (L' : List Ent) : Prop := ∃ (st : Nat) (z : Value) (w2 w3 : World), (Instr.mapEntry t (.map (some b)) key).run P W = .ok (.tuple #[z, .int .i64 st]) w2 ∧ (Instr.entryStore t (.map (some b)) (.int .i64 st) val).run P w2 = .ok () w3 ∧ MapL P k w3 b L' ∧ W.mapTurned w2 b ∧ W.mapTurned w3 b
section
variable {P : Program} {k t e : TypeId} {W : World} {b : Nat} {L : List Ent} {key : Value} {kl : Lit}
theorem EntSt.new (K : Keyed P k) (ht : P.underlying t = some (.map k e)) (hkey : keyOf P k key = some kl) (h : MapL P k W b L) {z : Value} (hz : ∀ u : World, (zeroValue e).run P u = .ok z u) (hm : ∀ v, (key, v) ∉ L) (val : Value) {L' : List Ent} (hp : ((key, val) :: L).Perm L') : EntSt P k t W b key val L' := by
 obtain ⟨st, w2, e1, _, e3, e4⟩ := h.entry_new K ht hkey hz hm
 obtain ⟨w3, e5, e6, e7⟩ := e4 val
 exact ⟨st, z, w2, w3, e1, e5, e6.perm hp, e3, e7⟩
theorem EntSt.old (K : Keyed P k) (ht : P.underlying t = some (.map k e)) (hkey : keyOf P k key = some kl) (h : MapL P k W b L) {u : Value} {L0 : List Ent} (hm : L.Perm ((key, u) :: L0)) (val : Value) {L' : List Ent} (hp : ((key, val) :: L0).Perm L') : EntSt P k t W b key val L' := by
 obtain ⟨st, w2, e1, _, e3, e4⟩ := h.entry_old K ht hkey hm
 obtain ⟨w3, e5, e6, e7⟩ := e4 val
 exact ⟨st, u, w2, w3, e1, e5, e6.perm hp, e3, e7⟩
end
theorem two_ents {P : Program} {k ta tb : TypeId} {W : World} {a b : Nat} {key val key' val' : Value} {La Lb L : List Ent} (h1 : EntSt P k ta W a key val La) (h2 : MapL P k W b L) (h3 : ∀ V, MapL P k V b L → EntSt P k tb V b key' val' Lb) (hab : a ≠ b) :
  ∃ (st : Nat) (z : Value) (w2 w3 : World) (st' : Nat) (z' : Value) (w4 w5 : World), (Instr.mapEntry ta (.map (some a)) key).run P W = .ok (.tuple #[z, .int .i64 st]) w2 ∧ (Instr.entryStore ta (.map (some a)) (.int .i64 st) val).run P w2 = .ok () w3 ∧
   (Instr.mapEntry tb (.map (some b)) key').run P w3 = .ok (.tuple #[z', .int .i64 st']) w4 ∧ (Instr.entryStore tb (.map (some b)) (.int .i64 st') val').run P w4 = .ok () w5 ∧ MapL P k w5 a La ∧ MapL P k w5 b Lb ∧
   (∀ c, c ≠ a → c ≠ b → w2.heap[c]? = W.heap[c]? ∧ w3.heap[c]? = W.heap[c]? ∧ w4.heap[c]? = W.heap[c]? ∧ w5.heap[c]? = W.heap[c]?) ∧ Off [a, b] W w5 := by
 obtain ⟨st, z, w2, w3, e1, e2, e3, e4, e5⟩ := h1
 obtain ⟨st', z', w4, w5, f1, f2, f3, f4, f5⟩ := h3 w3 (h2.of_block (turned_block e5 hab.symm))
 refine ⟨st, z, w2, w3, st', z', w4, w5, e1, e2, f1, f2, e3.of_block (turned_block f5 hab), f3, fun c ha hb => ⟨turned_block e4 ha, turned_block e5 ha, (turned_block f4 hb).trans (turned_block e5 ha), (turned_block f5 hb).trans (turned_block e5 ha)⟩, ?_⟩
 exact (Off.of_turned e5 (by simp)).trans (Off.of_turned f5 (by simp))
theorem boxed2 (W : World) (a b v0 v1 : Value) (t : TypeId) : ∃ V1 V2 V3 : World, W.alloc (.cells #[a, b] t) = V1 ∧ V1.setCell ⟨W.heap.size, 0, none⟩ v0 = V2 ∧ V2.setCell ⟨W.heap.size, 1, none⟩ v1 = V3 ∧
  (V1.cell? ⟨W.heap.size, 0, none⟩ = some a ∧ V1.cell? ⟨W.heap.size, 1, none⟩ = some b ∧ ∀ o, V1.frozen? ⟨W.heap.size, o, none⟩ = false) ∧ (V2.cell? ⟨W.heap.size, 1, none⟩ = some b ∧ ∀ o, V2.frozen? ⟨W.heap.size, o, none⟩ = false) ∧ V3.heap[W.heap.size]? = some (.cells #[v0, v1] t (0, 0)) ∧ Below W.heap.size W V1 ∧ Below W.heap.size W V2 ∧ Below W.heap.size W V3 := by
 have n1 := heap_alloc_new W (.cells #[a, b] t)
 have b1 : Below W.heap.size W (W.alloc (.cells #[a, b] t)) := (Below.refl _ W).alloc (Nat.le_refl _) _
 refine ⟨_, _, _, rfl, rfl, rfl, ?_⟩
 generalize W.alloc (.cells #[a, b] t) = V1 at *
 have n2 : (V1.setCell ⟨W.heap.size, 0, none⟩ v0).heap[W.heap.size]? = some (.cells #[v0, b] t (0, 0)) := set_cell n1 0 v0 rfl
 have b2 : Below W.heap.size W (V1.setCell ⟨W.heap.size, 0, none⟩ v0) := b1.setCell (p := ⟨W.heap.size, 0, none⟩) (Nat.le_refl _) v0
 generalize V1.setCell ⟨W.heap.size, 0, none⟩ v0 = V2 at *
 exact ⟨⟨by rw [cell_of_heap n1]; rfl, by rw [cell_of_heap n1]; rfl, fun o => frozen_of_heap n1 o⟩, ⟨by rw [cell_of_heap n2]; rfl, fun o => frozen_of_heap n2 o⟩, set_cell n2 1 v1 rfl, b1, b2, b2.setCell (p := ⟨W.heap.size, 1, none⟩) (Nat.le_refl _) v1⟩
theorem boxed4 (W : World) (a b c d v0 v1 v2 v3 : Value) (t : TypeId) : ∃ V1 V2 V3 V4 V5 : World, W.alloc (.cells #[a, b, c, d] t) = V1 ∧ V1.setCell ⟨W.heap.size, 0, none⟩ v0 = V2 ∧ V2.setCell ⟨W.heap.size, 1, none⟩ v1 = V3 ∧ V3.setCell ⟨W.heap.size, 2, none⟩ v2 = V4 ∧ V4.setCell ⟨W.heap.size, 3, none⟩ v3 = V5 ∧
  (V1.cell? ⟨W.heap.size, 0, none⟩ = some a ∧ V1.cell? ⟨W.heap.size, 1, none⟩ = some b ∧ V1.cell? ⟨W.heap.size, 2, none⟩ = some c ∧ V1.cell? ⟨W.heap.size, 3, none⟩ = some d ∧ ∀ o, V1.frozen? ⟨W.heap.size, o, none⟩ = false) ∧ (V2.cell? ⟨W.heap.size, 1, none⟩ = some b ∧ ∀ o, V2.frozen? ⟨W.heap.size, o, none⟩ = false) ∧ (V3.cell? ⟨W.heap.size, 2, none⟩ = some c ∧ ∀ o, V3.frozen? ⟨W.heap.size, o, none⟩ = false) ∧ (V4.cell? ⟨W.heap.size, 3, none⟩ = some d ∧ ∀ o, V4.frozen? ⟨W.heap.size, o, none⟩ = false) ∧
  V5.heap[W.heap.size]? = some (.cells #[v0, v1, v2, v3] t (0, 0)) ∧ Below W.heap.size W V1 ∧ Below W.heap.size W V5 := by
 have n1 := heap_alloc_new W (.cells #[a, b, c, d] t)
 have b1 : Below W.heap.size W (W.alloc (.cells #[a, b, c, d] t)) := (Below.refl _ W).alloc (Nat.le_refl _) _
 refine ⟨_, _, _, _, _, rfl, rfl, rfl, rfl, rfl, ?_⟩
 generalize W.alloc (.cells #[a, b, c, d] t) = V1 at *
 have n2 : (V1.setCell ⟨W.heap.size, 0, none⟩ v0).heap[W.heap.size]? = some (.cells #[v0, b, c, d] t (0, 0)) := set_cell n1 0 v0 rfl
 have b2 : Below W.heap.size W (V1.setCell ⟨W.heap.size, 0, none⟩ v0) := b1.setCell (p := ⟨W.heap.size, 0, none⟩) (Nat.le_refl _) v0
 generalize V1.setCell ⟨W.heap.size, 0, none⟩ v0 = V2 at *
 have n3 : (V2.setCell ⟨W.heap.size, 1, none⟩ v1).heap[W.heap.size]? = some (.cells #[v0, v1, c, d] t (0, 0)) := set_cell n2 1 v1 rfl
 have b3 : Below W.heap.size W (V2.setCell ⟨W.heap.size, 1, none⟩ v1) := b2.setCell (p := ⟨W.heap.size, 1, none⟩) (Nat.le_refl _) v1
 generalize V2.setCell ⟨W.heap.size, 1, none⟩ v1 = V3 at *
 have n4 : (V3.setCell ⟨W.heap.size, 2, none⟩ v2).heap[W.heap.size]? = some (.cells #[v0, v1, v2, d] t (0, 0)) := set_cell n3 2 v2 rfl
 have b4 : Below W.heap.size W (V3.setCell ⟨W.heap.size, 2, none⟩ v2) := b3.setCell (p := ⟨W.heap.size, 2, none⟩) (Nat.le_refl _) v2
 generalize V3.setCell ⟨W.heap.size, 2, none⟩ v2 = V4 at *
 exact ⟨⟨by rw [cell_of_heap n1]; rfl, by rw [cell_of_heap n1]; rfl, by rw [cell_of_heap n1]; rfl, by rw [cell_of_heap n1]; rfl, fun o => frozen_of_heap n1 o⟩, ⟨by rw [cell_of_heap n2]; rfl, fun o => frozen_of_heap n2 o⟩, ⟨by rw [cell_of_heap n3]; rfl, fun o => frozen_of_heap n3 o⟩, ⟨by rw [cell_of_heap n4]; rfl, fun o => frozen_of_heap n4 o⟩, set_cell n4 3 v3 rfl, b1, b4.setCell (p := ⟨W.heap.size, 3, none⟩) (Nat.le_refl _) v3⟩
end Go.Proofs.YtppodkkefegbkaaGreatDoor
