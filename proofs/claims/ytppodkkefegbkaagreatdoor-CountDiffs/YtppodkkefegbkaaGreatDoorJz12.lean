/-
  A book stays well, whatever the entry.
-/
import Derived.Test.YtppodkkefegbkaaGreatDoorJz9
import Derived.Test.YtppodkkefegbkaaGreatDoorQMap
import Derived.Test.YtppodkkefegbkaaGreatDoorJz11
import Derived.Test.YtppodkkefegbkaaGreatDoorJz6
import Derived.BigQuiet
import Derived.Test.YtppodkkefegbkaaGreatDoorJz2
import Derived.ProofKit
import Derived.OpenShut
import Derived.Stop.Joined
import Derived.Lib.SmallJoins
import Derived.Deep.Slices
import Derived.RangeFuncNested
import Derived.RangeFuncBound
import Derived.RangeFuncCalls
import Derived.RangeFuncLeaves
import Derived.RangeFuncBox
import Derived.Shelf.Abstract
import Derived.WalkKit
import Derived.OwnWalkIn
import Derived.TacticsInMore
import Derived.LoopNIn
import Derived.LoopIn
import Derived.Sort.MapsRangeIn
import Derived.Maps.AppendAt
set_option maxRecDepth 100000
set_option maxHeartbeats 16000000
namespace Go.Proofs.YtppodkkefegbkaaGreatDoor
open Go.RowKit Go.Lib Go.Sort
theorem BkOk.do_ {b : Bk} (h : BkOk b) (e : En) : BkOk (doB b e).1 := by
  by_cases he : entErr e = 0
  · by_cases h1 : e.1 = kGoods
    · rw [doB_goods he h1]
      split
      · rename_i h0; exact h.goods h0
      · exact h
    by_cases h2 : e.1 = kLot
    · rw [doB_lot he h2]
      split
      · rename_i h0; exact h.lot h0
      · exact h
    rcases findI_cases nameL b.2.1 e.2.2.1.1 with ⟨h9, _⟩ | ⟨k, l, hkL, hl, hid⟩
    · rw [doB_none he h1 h2 (by omega)]; exact h
    · obtain ⟨g0, hg0, hg1⟩ := h.wf.lots l (List.mem_of_getElem? hl)
      rcases findI_cases nameG b.1 l.1.2.1 with ⟨_, h8⟩ | ⟨i, g, hiG, hg, _⟩
      · exact absurd hg1 (h8 g0 hg0)
      · rw [doB_at he h1 h2 hkL hl hiG hg]
        split
        · rename_i h0
          exact h.piece (by have := (piece_num he h1 h2).1; omega) hl hid hg h0
        · exact h
  · rw [doB_err he]; exact h
theorem doB_le (b : Bk) (e : En) : (doB b e).2 ≤ 12 := by
  by_cases he : entErr e = 0
  · unfold doB
    rw [if_pos he]
    have hp : ∀ l g, pieceE b e l g ≤ 12 := fun l g => by
      unfold pieceE
      have h1 : stkE e b.2.2 ≤ 12 := by
        unfold stkE
        cases kd e.1 with
        | tow => exact putE_le _ _ _ _
        | frm => exact takeE_le _ _ _
        | move => exact moveE_le _ _ _ _ _
        | _ => exact Nat.zero_le _
      repeat' split
      all_goals omega
    have hg : goodsE b e.2.1 ≤ 12 := by unfold goodsE; repeat' split
                                        all_goals omega
    have hl : lotBE b e.2.2.1 ≤ 12 := by unfold lotBE; repeat' split
                                         all_goals omega
    repeat' split
    all_goals first | exact hg | exact hl | exact hp _ _ | (show (0 : Nat) ≤ 12; omega) | (show (6 : Nat) ≤ 12; omega)
  · rw [doB_err he]; exact entErr_le e
end Go.Proofs.YtppodkkefegbkaaGreatDoor
namespace Go.Proofs.YtppodkkefegbkaaGreatDoor
open Go.RowKit Go.Lib Go.Sort
open Go.Maps (Keyed)
abbrev agG (g : Gd) : Value := .agg #[.string g.1, .int .i64 g.2]
abbrev agU (s : Su) : Value := .agg #[.int .i64 s.1, .int .i64 s.2.1, .int .i64 s.2.2.1, .int .i64 s.2.2.2]
abbrev agQ (l : Lo) : Value := .agg #[.string l.1, .string l.2.1, .int .i64 l.2.2.1, .int .i64 l.2.2.2]
def entG (g : Gs) : Ent := (.string g.1.1, agG g.1)
def entU (g : Gs) : Ent := (.string g.1.1, agU g.2)
def entL (l : Lh) : Ent := (.string l.1.1, agQ l.1)
def entH (l : Lh) : Ent := (.string l.1.1, .int .i64 l.2)
structure Bl where
  p : Nat
  g : Nat
  u : Nat
  l : Nat
  h : Nat
def Bl.all (x : Bl) : List Nat := [x.p, x.g, x.u, x.l, x.h]
structure BkAt (w : World) (B : Nat) (x : Bl) (ps bs : Nat) (b : Bk) : Prop where
  blk : w.heap[x.p]? = some (.cells #[.map (some x.g), .map (some x.u), .map (some x.l), .map (some x.h), .pointer (some ⟨ps, 0, none⟩)] 92 (0, 0))
  G : MapL Tryz.prog 9 w x.g (b.1.map entG)
  U : MapL Tryz.prog 9 w x.u (b.1.map entU)
  L : MapL Tryz.prog 9 w x.l (b.2.1.map entL)
  H : MapL Tryz.prog 9 w x.h (b.2.1.map entH)
  sblk : w.heap[ps]? = some (.cells #[.map (some bs)] 97 (0, 0))
  S : IsStock w ps bs b.2.2
  ok : BkOk b
  bp : B ≤ x.p
  bg : B ≤ x.g
  gu : x.g < x.u
  ul : x.u < x.l
  lh : x.l < x.h
  hs : x.h < bs
  bs : B ≤ ps
def IsBk (w : World) (B : Nat) (x : Bl) (b : Bk) : Prop := ∃ ps bs, BkAt w B x ps bs b
section
variable {w w' : World} {B : Nat} {x : Bl} {ps bs : Nat} {b : Bk}
theorem BkAt.lts (h : BkAt w B x ps bs b) : x.p < w.heap.size ∧ x.g < w.heap.size ∧ x.u < w.heap.size ∧ x.l < w.heap.size ∧ x.h < w.heap.size ∧ ps < w.heap.size ∧ bs < w.heap.size :=
  ⟨(Array.getElem?_eq_some_iff.1 h.blk).1, h.G.lt, h.U.lt, h.L.lt, h.H.lt, (Array.getElem?_eq_some_iff.1 h.sblk).1, h.S.lt.2⟩
theorem IsStock.of_blocks {p q : Nat} {m : List Ln} (h : IsStock w p q m) (h1 : w'.heap[p]? = w.heap[p]?) (h2 : w'.heap[q]? = w.heap[q]?) : IsStock w' p q m :=
  ⟨(World.cell?_of_block (a := ⟨p, 0, none⟩) h1).trans h.cell, h.map.of_block h2, h.wf⟩
theorem BkAt.of_blocks (h : BkAt w B x ps bs b) (hk : ∀ k, k = x.p ∨ k = x.g ∨ k = x.u ∨ k = x.l ∨ k = x.h ∨ k = ps ∨ k = bs → w'.heap[k]? = w.heap[k]?) : BkAt w' B x ps bs b where
  blk := (hk _ (by simp)).trans h.blk
  G := h.G.of_block (hk _ (by simp))
  U := h.U.of_block (hk _ (by simp))
  L := h.L.of_block (hk _ (by simp))
  H := h.H.of_block (hk _ (by simp))
  sblk := (hk _ (by simp)).trans h.sblk
  S := h.S.of_blocks (hk _ (by simp)) (hk _ (by simp))
  ok := h.ok
  bp := h.bp
  bg := h.bg
  gu := h.gu
  ul := h.ul
  lh := h.lh
  hs := h.hs
  bs := h.bs
theorem BkAt.low (h : BkAt w B x ps bs b) : ∀ k, k = x.p ∨ k = x.g ∨ k = x.u ∨ k = x.l ∨ k = x.h ∨ k = ps ∨ k = bs → B ≤ k ∧ k < w.heap.size := by
  have h1 := h.lts
  have := h.bp; have := h.bg; have := h.gu; have := h.ul; have := h.lh; have := h.hs; have := h.bs
  rintro k (rfl | rfl | rfl | rfl | rfl | rfl | rfl) <;> omega
theorem BkAt.all (h : BkAt w B x ps bs b) (hb : Below w.heap.size w w') : BkAt w' B x ps bs b := h.of_blocks fun k hk => hb.block k (h.low k hk).2
theorem IsBk.below (h : IsBk w B x b) (hb : Below w.heap.size w w') : IsBk w' B x b := by
  obtain ⟨ps, bs, h⟩ := h
  exact ⟨ps, bs, h.all hb⟩
theorem IsBk.off (h : IsBk w B x b) {y : List Nat} (hf : Off y w w') (hy : ∀ k ∈ y, k < B) : IsBk w' B x b := by
  obtain ⟨ps, bs, h⟩ := h
  exact ⟨ps, bs, h.of_blocks fun k hk => hf.block k (h.low k hk).2 fun e => by have := hy k e; have := (h.low k hk).1; omega⟩
theorem IsBk.ok (h : IsBk w B x b) : BkOk b := by
  obtain ⟨ps, bs, h⟩ := h
  exact h.ok
theorem IsBk.mono (h : IsBk w B x b) {B' : Nat} (hB : B' ≤ B) : IsBk w B' x b := by
  obtain ⟨ps, bs, h⟩ := h
  exact ⟨ps, bs, { h with bp := Nat.le_trans hB h.bp, bg := Nat.le_trans hB h.bg, bs := Nat.le_trans hB h.bs }⟩
theorem IsBk.low (h : IsBk w B x b) : ∀ k ∈ x.all, B ≤ k ∧ k < w.heap.size := by
  obtain ⟨ps, bs, h⟩ := h
  intro k hk
  unfold Bl.all at hk
  simp at hk
  exact h.low k (by rcases hk with h | h | h | h | h <;> simp [h])
theorem IsBk.base (h : IsBk w B x b) : B ≤ w.heap.size := by
  have := h.low x.p (by simp [Bl.all])
  omega
theorem BkAt.cells (h : BkAt w B x ps bs b) : w.cell? ⟨x.p, 0, none⟩ = some (.map (some x.g)) ∧ w.cell? ⟨x.p, 1, none⟩ = some (.map (some x.u)) ∧ w.cell? ⟨x.p, 2, none⟩ = some (.map (some x.l)) ∧ w.cell? ⟨x.p, 3, none⟩ = some (.map (some x.h)) ∧ w.cell? ⟨x.p, 4, none⟩ = some (.pointer (some ⟨ps, 0, none⟩)) ∧ ∀ o, w.frozen? ⟨x.p, o, none⟩ = false :=
  ⟨by rw [cell_of_heap h.blk]; rfl, by rw [cell_of_heap h.blk]; rfl, by rw [cell_of_heap h.blk]; rfl, by rw [cell_of_heap h.blk]; rfl, by rw [cell_of_heap h.blk]; rfl, fun o => frozen_of_heap h.blk o⟩
end
variable {α : Type}
def findN (f : α → ByteArray) (m : List α) (c : ByteArray) : Option α := m.find? (fun x => decide (f x = c))
theorem findN_cases (f : α → ByteArray) (m : List α) (c : ByteArray) : (findN f m c = none ∧ ∀ x ∈ m, f x ≠ c) ∨ ∃ x, findN f m c = some x ∧ x ∈ m ∧ f x = c := by
  unfold findN
  cases h : m.find? (fun x => decide (f x = c)) with
  | none => exact Or.inl ⟨rfl, fun x hx => by simpa using List.find?_eq_none.1 h x hx⟩
  | some x => exact Or.inr ⟨x, rfl, List.mem_of_find?_eq_some h, by simpa using List.find?_some h⟩
def sumsB (b : Bk) (c : ByteArray) : Su := ((findN nameG b.1 c).map (·.2)).getD zeroSu
def zeroLo : Lo := (⟨#[]⟩, ⟨#[]⟩, 0, 0)
def lotAt (b : Bk) (c : ByteArray) : Lo := ((findN nameL b.2.1 c).map (·.1)).getD zeroLo
def isLot (b : Bk) (c : ByteArray) : Bool := (findN nameL b.2.1 c).isSome
theorem insC_perm (f : α → ByteArray) (m : List α) (x : α) : (insC f m x).Perm (x :: m) := by
  unfold insC
  refine List.perm_middle.trans ?_
  rw [List.take_append_drop]
end Go.Proofs.YtppodkkefegbkaaGreatDoor
namespace Go.Proofs.YtppodkkefegbkaaGreatDoor
open Go.RowKit Go.Lib Go.Sort
structure EntO (w : World) (q o : Nat) (e : En) : Prop where
  c0 : w.cell? ⟨q, o, none⟩ = some (.string e.1)
  c1 : w.cell? ⟨q, o + 1, none⟩ = some (.string e.2.1.1)
  c2 : w.cell? ⟨q, o + 2, none⟩ = some (.int .i64 e.2.1.2)
  c3 : w.cell? ⟨q, o + 3, none⟩ = some (.string e.2.2.1.1)
  c4 : w.cell? ⟨q, o + 4, none⟩ = some (.string e.2.2.1.2.1)
  c5 : w.cell? ⟨q, o + 5, none⟩ = some (.int .i64 e.2.2.1.2.2.1)
  c6 : w.cell? ⟨q, o + 6, none⟩ = some (.int .i64 e.2.2.1.2.2.2)
  c7 : w.cell? ⟨q, o + 7, none⟩ = some (.string e.2.2.2.1.1)
  c8 : w.cell? ⟨q, o + 8, none⟩ = some (.int .i64 e.2.2.2.1.2.1)
  c9 : w.cell? ⟨q, o + 9, none⟩ = some (.int .i64 e.2.2.2.1.2.2)
  c10 : w.cell? ⟨q, o + 10, none⟩ = some (.string e.2.2.2.2.1.1)
  c11 : w.cell? ⟨q, o + 11, none⟩ = some (.int .i64 e.2.2.2.2.1.2.1)
  c12 : w.cell? ⟨q, o + 12, none⟩ = some (.int .i64 e.2.2.2.2.1.2.2)
  c13 : w.cell? ⟨q, o + 13, none⟩ = some (.int .i64 e.2.2.2.2.2)
theorem EntO.of_block {w w' : World} {q o : Nat} {e : En} (h : EntO w q o e) (hb : w'.heap[q]? = w.heap[q]?) : EntO w' q o e where
  c0 := (World.cell?_of_block (a := ⟨q, o, none⟩) hb).trans h.c0
  c1 := (World.cell?_of_block (a := ⟨q, o + 1, none⟩) hb).trans h.c1
  c2 := (World.cell?_of_block (a := ⟨q, o + 2, none⟩) hb).trans h.c2
  c3 := (World.cell?_of_block (a := ⟨q, o + 3, none⟩) hb).trans h.c3
  c4 := (World.cell?_of_block (a := ⟨q, o + 4, none⟩) hb).trans h.c4
  c5 := (World.cell?_of_block (a := ⟨q, o + 5, none⟩) hb).trans h.c5
  c6 := (World.cell?_of_block (a := ⟨q, o + 6, none⟩) hb).trans h.c6
  c7 := (World.cell?_of_block (a := ⟨q, o + 7, none⟩) hb).trans h.c7
  c8 := (World.cell?_of_block (a := ⟨q, o + 8, none⟩) hb).trans h.c8
  c9 := (World.cell?_of_block (a := ⟨q, o + 9, none⟩) hb).trans h.c9
  c10 := (World.cell?_of_block (a := ⟨q, o + 10, none⟩) hb).trans h.c10
  c11 := (World.cell?_of_block (a := ⟨q, o + 11, none⟩) hb).trans h.c11
  c12 := (World.cell?_of_block (a := ⟨q, o + 12, none⟩) hb).trans h.c12
  c13 := (World.cell?_of_block (a := ⟨q, o + 13, none⟩) hb).trans h.c13
structure Ents (w : World) (q o : Nat) (l : List En) : Prop where
  lt : q < w.heap.size
  at_ : ∀ k e, l[k]? = some e → EntO w q (o + k * 14) e
theorem Ents.below {w w' : World} {B q o : Nat} {l : List En} (h : Ents w q o l) (hB : q < B) (hb : Below B w w') : Ents w' q o l :=
  ⟨Nat.lt_of_lt_of_le h.lt hb.size, fun k e hk => (h.at_ k e hk).of_block (hb.block q hB)⟩
end Go.Proofs.YtppodkkefegbkaaGreatDoor
namespace Go.Proofs.YtppodkkefegbkaaGreatDoor
open Go.RowKit Go.Lib Go.Sort
open Go.Maps (Keyed)
def EntSt (P : Program) (k t : TypeId) (W : World) (b : Nat) (key val : Value) (L' : List Ent) : Prop := ∃ (st : Nat) (z : Value) (w2 w3 : World), (Instr.mapEntry t (.map (some b)) key).run P W = .ok (.tuple #[z, .int .i64 st]) w2 ∧ (Instr.entryStore t (.map (some b)) (.int .i64 st) val).run P w2 = .ok () w3 ∧ MapL P k w3 b L' ∧ W.mapTurned w2 b ∧ W.mapTurned w3 b
section
variable {P : Program} {k t e : TypeId} {W : World} {b : Nat} {L : List Ent} {key : Value} {kl : Lit}
theorem EntSt.new (K : Keyed P k) (ht : P.underlying t = some (.map k e)) (hkey : keyOf P k key = some kl) (h : MapL P k W b L) {z : Value} (hz : ∀ u : World, (zeroValue e).run P u = .ok z u) (hm : ∀ v, (key, v) ∉ L) (val : Value) {L' : List Ent} (hp : ((key, val) :: L).Perm L') : EntSt P k t W b key val L' := by
  obtain ⟨st, w2, e1, _, e3, e4⟩ := h.entry_new K ht hkey hz hm
  obtain ⟨w3, e5, e6, e7⟩ := e4 val
  exact ⟨st, z, w2, w3, e1, e5, e6.perm hp, e3, e7⟩
theorem EntSt.old (K : Keyed P k) (ht : P.underlying t = some (.map k e)) (hkey : keyOf P k key = some kl) (h : MapL P k W b L) {u : Value} {L0 : List Ent} (hm : L.Perm ((key, u) :: L0)) (val : Value) {L' : List Ent} (hp : ((key, val) :: L0).Perm L') : EntSt P k t W b key val L' := by
  obtain ⟨st, w2, e1, _, e3, e4⟩ := h.entry_old K ht hkey hm
  obtain ⟨w3, e5, e6, e7⟩ := e4 val
  exact ⟨st, u, w2, w3, e1, e5, e6.perm hp, e3, e7⟩
end
theorem two_ents {P : Program} {k ta tb : TypeId} {W : World} {a b : Nat} {key val key' val' : Value} {La Lb L : List Ent} (h1 : EntSt P k ta W a key val La) (h2 : MapL P k W b L) (h3 : ∀ V, MapL P k V b L → EntSt P k tb V b key' val' Lb) (hab : a ≠ b) :
    ∃ (st : Nat) (z : Value) (w2 w3 : World) (st' : Nat) (z' : Value) (w4 w5 : World), (Instr.mapEntry ta (.map (some a)) key).run P W = .ok (.tuple #[z, .int .i64 st]) w2 ∧ (Instr.entryStore ta (.map (some a)) (.int .i64 st) val).run P w2 = .ok () w3 ∧
      (Instr.mapEntry tb (.map (some b)) key').run P w3 = .ok (.tuple #[z', .int .i64 st']) w4 ∧ (Instr.entryStore tb (.map (some b)) (.int .i64 st') val').run P w4 = .ok () w5 ∧ MapL P k w5 a La ∧ MapL P k w5 b Lb ∧
      (∀ c, c ≠ a → c ≠ b → w2.heap[c]? = W.heap[c]? ∧ w3.heap[c]? = W.heap[c]? ∧ w4.heap[c]? = W.heap[c]? ∧ w5.heap[c]? = W.heap[c]?) ∧ Off [a, b] W w5 := by
  obtain ⟨st, z, w2, w3, e1, e2, e3, e4, e5⟩ := h1
  obtain ⟨st', z', w4, w5, f1, f2, f3, f4, f5⟩ := h3 w3 (h2.of_block (turned_block e5 hab.symm))
  refine ⟨st, z, w2, w3, st', z', w4, w5, e1, e2, f1, f2, e3.of_block (turned_block f5 hab), f3, fun c ha hb => ⟨turned_block e4 ha, turned_block e5 ha, (turned_block f4 hb).trans (turned_block e5 ha), (turned_block f5 hb).trans (turned_block e5 ha)⟩, ?_⟩
  exact (Off.of_turned e5 (by simp)).trans (Off.of_turned f5 (by simp))
theorem boxed2 (W : World) (a b v0 v1 : Value) (t : TypeId) : ∃ V1 V2 V3 : World, W.alloc (.cells #[a, b] t) = V1 ∧ V1.setCell ⟨W.heap.size, 0, none⟩ v0 = V2 ∧ V2.setCell ⟨W.heap.size, 1, none⟩ v1 = V3 ∧
    (V1.cell? ⟨W.heap.size, 0, none⟩ = some a ∧ V1.cell? ⟨W.heap.size, 1, none⟩ = some b ∧ ∀ o, V1.frozen? ⟨W.heap.size, o, none⟩ = false) ∧ (V2.cell? ⟨W.heap.size, 1, none⟩ = some b ∧ ∀ o, V2.frozen? ⟨W.heap.size, o, none⟩ = false) ∧ V3.heap[W.heap.size]? = some (.cells #[v0, v1] t (0, 0)) ∧ Below W.heap.size W V1 ∧ Below W.heap.size W V2 ∧ Below W.heap.size W V3 := by
  have n1 := heap_alloc_new W (.cells #[a, b] t)
  have b1 : Below W.heap.size W (W.alloc (.cells #[a, b] t)) := (Below.refl _ W).alloc (Nat.le_refl _) _
  refine ⟨_, _, _, rfl, rfl, rfl, ?_⟩
  generalize W.alloc (.cells #[a, b] t) = V1 at *
  have n2 : (V1.setCell ⟨W.heap.size, 0, none⟩ v0).heap[W.heap.size]? = some (.cells #[v0, b] t (0, 0)) := set_cell n1 0 v0 rfl
  have b2 : Below W.heap.size W (V1.setCell ⟨W.heap.size, 0, none⟩ v0) := b1.setCell (p := ⟨W.heap.size, 0, none⟩) (Nat.le_refl _) v0
  generalize V1.setCell ⟨W.heap.size, 0, none⟩ v0 = V2 at *
  exact ⟨⟨by rw [cell_of_heap n1]; rfl, by rw [cell_of_heap n1]; rfl, fun o => frozen_of_heap n1 o⟩, ⟨by rw [cell_of_heap n2]; rfl, fun o => frozen_of_heap n2 o⟩, set_cell n2 1 v1 rfl, b1, b2, b2.setCell (p := ⟨W.heap.size, 1, none⟩) (Nat.le_refl _) v1⟩
theorem boxed4 (W : World) (a b c d v0 v1 v2 v3 : Value) (t : TypeId) : ∃ V1 V2 V3 V4 V5 : World, W.alloc (.cells #[a, b, c, d] t) = V1 ∧ V1.setCell ⟨W.heap.size, 0, none⟩ v0 = V2 ∧ V2.setCell ⟨W.heap.size, 1, none⟩ v1 = V3 ∧ V3.setCell ⟨W.heap.size, 2, none⟩ v2 = V4 ∧ V4.setCell ⟨W.heap.size, 3, none⟩ v3 = V5 ∧
    (V1.cell? ⟨W.heap.size, 0, none⟩ = some a ∧ V1.cell? ⟨W.heap.size, 1, none⟩ = some b ∧ V1.cell? ⟨W.heap.size, 2, none⟩ = some c ∧ V1.cell? ⟨W.heap.size, 3, none⟩ = some d ∧ ∀ o, V1.frozen? ⟨W.heap.size, o, none⟩ = false) ∧ (V2.cell? ⟨W.heap.size, 1, none⟩ = some b ∧ ∀ o, V2.frozen? ⟨W.heap.size, o, none⟩ = false) ∧ (V3.cell? ⟨W.heap.size, 2, none⟩ = some c ∧ ∀ o, V3.frozen? ⟨W.heap.size, o, none⟩ = false) ∧ (V4.cell? ⟨W.heap.size, 3, none⟩ = some d ∧ ∀ o, V4.frozen? ⟨W.heap.size, o, none⟩ = false) ∧
    V5.heap[W.heap.size]? = some (.cells #[v0, v1, v2, v3] t (0, 0)) ∧ Below W.heap.size W V1 ∧ Below W.heap.size W V5 := by
  have n1 := heap_alloc_new W (.cells #[a, b, c, d] t)
  have b1 : Below W.heap.size W (W.alloc (.cells #[a, b, c, d] t)) := (Below.refl _ W).alloc (Nat.le_refl _) _
  refine ⟨_, _, _, _, _, rfl, rfl, rfl, rfl, rfl, ?_⟩
  generalize W.alloc (.cells #[a, b, c, d] t) = V1 at *
  have n2 : (V1.setCell ⟨W.heap.size, 0, none⟩ v0).heap[W.heap.size]? = some (.cells #[v0, b, c, d] t (0, 0)) := set_cell n1 0 v0 rfl
  have b2 : Below W.heap.size W (V1.setCell ⟨W.heap.size, 0, none⟩ v0) := b1.setCell (p := ⟨W.heap.size, 0, none⟩) (Nat.le_refl _) v0
  generalize V1.setCell ⟨W.heap.size, 0, none⟩ v0 = V2 at *
  have n3 : (V2.setCell ⟨W.heap.size, 1, none⟩ v1).heap[W.heap.size]? = some (.cells #[v0, v1, c, d] t (0, 0)) := set_cell n2 1 v1 rfl
  have b3 : Below W.heap.size W (V2.setCell ⟨W.heap.size, 1, none⟩ v1) := b2.setCell (p := ⟨W.heap.size, 1, none⟩) (Nat.le_refl _) v1
  generalize V2.setCell ⟨W.heap.size, 1, none⟩ v1 = V3 at *
  have n4 : (V3.setCell ⟨W.heap.size, 2, none⟩ v2).heap[W.heap.size]? = some (.cells #[v0, v1, v2, d] t (0, 0)) := set_cell n3 2 v2 rfl
  have b4 : Below W.heap.size W (V3.setCell ⟨W.heap.size, 2, none⟩ v2) := b3.setCell (p := ⟨W.heap.size, 2, none⟩) (Nat.le_refl _) v2
  generalize V3.setCell ⟨W.heap.size, 2, none⟩ v2 = V4 at *
  exact ⟨⟨by rw [cell_of_heap n1]; rfl, by rw [cell_of_heap n1]; rfl, by rw [cell_of_heap n1]; rfl, by rw [cell_of_heap n1]; rfl, fun o => frozen_of_heap n1 o⟩, ⟨by rw [cell_of_heap n2]; rfl, fun o => frozen_of_heap n2 o⟩, ⟨by rw [cell_of_heap n3]; rfl, fun o => frozen_of_heap n3 o⟩, ⟨by rw [cell_of_heap n4]; rfl, fun o => frozen_of_heap n4 o⟩, set_cell n4 3 v3 rfl, b1, b4.setCell (p := ⟨W.heap.size, 3, none⟩) (Nat.le_refl _) v3⟩
end Go.Proofs.YtppodkkefegbkaaGreatDoor
namespace Go.Proofs.YtppodkkefegbkaaGreatDoor
open Go.RowKit Go.Lib Go.Sort
theorem newB_any (w : World) : Calls Tryz.prog 59 #[] w fun e w' => e = .returned (.pointer (some ⟨w.heap.size + 1, 0, none⟩)) ∧ IsStock w' (w.heap.size + 1) w.heap.size [] ∧ w'.heap[w.heap.size + 1]? = some (.cells #[.map (some w.heap.size)] 97 (0, 0)) ∧ w'.heap.size = w.heap.size + 2 ∧ Below w.heap.size w w' := by
  have hmm := @run_makeMap Tryz.prog
  go_enter Tryz.func59, Tryz.ntmps59
  go_wp2
  go_ret
  refine ⟨rfl, ⟨by simp, ?_, Wf.nil⟩, ?_, by simp, ((Below.refl _ w).alloc (Nat.le_refl _) _).alloc (by simp) _⟩
  · exact (MapL.made _ _ w).below ((Below.refl (w.heap.size + 1) _).alloc (by simp) _) (by omega)
  · have := heap_alloc_new (w.alloc (.map #[] 0)) (.cells #[.map (some w.heap.size)] 97)
    simpa using this
theorem bnew_any (w : World) : Calls Tryz.prog 28 #[] w fun e w' => ∃ x : Bl, e = .returned (.pointer (some ⟨x.p, 0, none⟩)) ∧ IsBk w' w.heap.size x ([], [], []) ∧ Below w.heap.size w w' := by
  have hmm := @run_makeMap Tryz.prog
  have b1 : Below w.heap.size w (w.alloc (.map #[] 0)) := (Below.refl _ w).alloc (Nat.le_refl _) _
  have m1 := MapL.made Tryz.prog 9 w
  have z1 : (w.alloc (.map #[] 0)).heap.size = w.heap.size + 1 := by simp
  obtain ⟨w1, h1⟩ : ∃ w1, w.alloc (.map #[] 0) = w1 := ⟨_, rfl⟩
  rw [h1] at b1 m1 z1
  have b2 : Below w1.heap.size w1 (w1.alloc (.map #[] 0)) := (Below.refl _ w1).alloc (Nat.le_refl _) _
  have m2 := MapL.made Tryz.prog 9 w1
  have z2 : (w1.alloc (.map #[] 0)).heap.size = w1.heap.size + 1 := by simp
  obtain ⟨w2, h2⟩ : ∃ w2, w1.alloc (.map #[] 0) = w2 := ⟨_, rfl⟩
  rw [h2] at b2 m2 z2
  have b3 : Below w2.heap.size w2 (w2.alloc (.map #[] 0)) := (Below.refl _ w2).alloc (Nat.le_refl _) _
  have m3 := MapL.made Tryz.prog 9 w2
  have z3 : (w2.alloc (.map #[] 0)).heap.size = w2.heap.size + 1 := by simp
  obtain ⟨w3, h3⟩ : ∃ w3, w2.alloc (.map #[] 0) = w3 := ⟨_, rfl⟩
  rw [h3] at b3 m3 z3
  have b4 : Below w3.heap.size w3 (w3.alloc (.map #[] 0)) := (Below.refl _ w3).alloc (Nat.le_refl _) _
  have m4 := MapL.made Tryz.prog 9 w3
  have z4 : (w3.alloc (.map #[] 0)).heap.size = w3.heap.size + 1 := by simp
  obtain ⟨w4, h4⟩ : ∃ w4, w3.alloc (.map #[] 0) = w4 := ⟨_, rfl⟩
  rw [h4] at b4 m4 z4
  have HN : Hid (Calls Tryz.prog 59 #[] w4 _) := newB_any w4
  have m1' := ((m1.below b2 (by omega)).below b3 (by omega)).below b4 (by omega)
  have m2' := (m2.below b3 (by omega)).below b4 (by omega)
  have m3' := m3.below b4 (by omega)
  have hb4 : Below w.heap.size w w4 := ((b1.trans (b2.mono (by omega))).trans (b3.mono (by omega))).trans (b4.mono (by omega))
  have HM : Hid (MapL Tryz.prog 9 w4 w.heap.size [] ∧ MapL Tryz.prog 9 w4 w1.heap.size [] ∧ MapL Tryz.prog 9 w4 w2.heap.size [] ∧ MapL Tryz.prog 9 w4 w3.heap.size [] ∧ Below w.heap.size w w4) := ⟨m1', m2', m3', m4, hb4⟩
  have HZ : Hid (w1.heap.size = w.heap.size + 1 ∧ w2.heap.size = w1.heap.size + 1 ∧ w3.heap.size = w2.heap.size + 1 ∧ w4.heap.size = w3.heap.size + 1) := ⟨z1, z2, z3, z4⟩
  clear m1 m2 m3 m4 m1' m2' m3' b1 b2 b3 b4 hb4 z1 z2 z3 z4
  go_enter Tryz.func28, Tryz.ntmps28
  go_wp2_with (go_at_call 59; refine HN.out.mono ?_; rintro e w5 ⟨rfl, hS, hsb, hz5, hb5⟩; have HZ5 : Hid (w5.heap.size = w4.heap.size + 2) := hz5; clear hz5)
  go_ret
  obtain ⟨m1, m2, m3, m4, hb4⟩ := HM.out
  obtain ⟨z1, z2, z3, z4⟩ := HZ.out
  have hz5 := HZ5.out
  have hb6 : Below w5.heap.size w5 (w5.alloc (.cells #[.map (some w.heap.size), .map (some w1.heap.size), .map (some w2.heap.size), .map (some w3.heap.size), .pointer (some ⟨w4.heap.size + 1, 0, none⟩)] 92)) := (Below.refl _ w5).alloc (Nat.le_refl _) _
  have n6 := heap_alloc_new w5 (.cells #[.map (some w.heap.size), .map (some w1.heap.size), .map (some w2.heap.size), .map (some w3.heap.size), .pointer (some ⟨w4.heap.size + 1, 0, none⟩)] 92)
  generalize w5.alloc (.cells #[.map (some w.heap.size), .map (some w1.heap.size), .map (some w2.heap.size), .map (some w3.heap.size), .pointer (some ⟨w4.heap.size + 1, 0, none⟩)] 92) = w6 at *
  have q5 : Below w.heap.size w w5 := hb4.trans (hb5.mono (by omega))
  have q6 : Below w.heap.size w w6 := q5.trans (hb6.mono (by omega))
  refine ⟨⟨w5.heap.size, w.heap.size, w1.heap.size, w2.heap.size, w3.heap.size⟩, rfl, ⟨w4.heap.size + 1, w4.heap.size, ?_⟩, q6⟩
  have h5 : Below w4.heap.size w4 w6 := hb5.trans (hb6.mono (by omega))
  exact { blk := n6, G := m1.below h5 (by omega), U := m2.below h5 (by omega), L := m3.below h5 (by omega), H := m4.below h5 (by omega), sblk := (hb6.block _ (by omega)).trans hsb, S := hS.all hb6, ok := BkOk.nil, bp := by simp only; omega, bg := Nat.le_refl _, gu := by simp only; omega, ul := by simp only; omega, lh := by simp only; omega, hs := by simp only; omega, bs := by omega }
theorem whole_any (w : World) (B : Nat) (x : Bl) (b : Bk) (h : IsBk w B x b) : Calls Tryz.prog 38 #[.pointer (some ⟨x.p, 0, none⟩)] w fun e w' => e = .returned (.pointer (some ⟨x.p, 0, none⟩)) ∧ w' = w := by
  obtain ⟨ps, bs, h⟩ := h
  obtain ⟨_, _, _, _, c4, _⟩ := h.cells
  clear h
  go_enter Tryz.func38, Tryz.ntmps38
  go_wp2
  go_ret
  exact ⟨rfl, rfl⟩
end Go.Proofs.YtppodkkefegbkaaGreatDoor
namespace Go.Proofs.YtppodkkefegbkaaGreatDoor
open Go.RowKit Go.Lib Go.Sort
open Go.Maps (Keyed)
structure Bs (w : World) (s : Nat → Addr) : Prop where
  es : Ec w s
  five : Five w s
  none_ : w.cell? ⟨1, 0, none⟩ = some (err (s 5))
  exist : w.cell? ⟨2, 0, none⟩ = some (err (s 6))
theorem Bs.below {w w' : World} {s : Nat → Addr} (h : Bs w s) (hb : Below w.heap.size w w') : Bs w' s where
  es := h.es.below hb
  five := h.five.below hb
  none_ := by rw [hb.cell (p := ⟨1, 0, none⟩) (cell_lt h.none_)]; exact h.none_
  exist := by rw [hb.cell (p := ⟨2, 0, none⟩) (cell_lt h.exist)]; exact h.exist
theorem Sent.bs {w : World} {s : Nat → Addr} (h : Sent w s) : Bs w s := ⟨h.es.ec, h.five, h.cell 5 (by decide), h.cell 6 (by decide)⟩
theorem mem_entG {m : List Gs} {c : ByteArray} {v : Value} (h : (.string c, v) ∈ m.map entG) : ∃ g ∈ m, nameG g = c ∧ v = agG g.1 := by
  obtain ⟨g, hg, e⟩ := List.mem_map.1 h
  unfold entG at e
  simp only [Prod.mk.injEq, Value.string.injEq] at e
  exact ⟨g, hg, e.1, e.2.symm⟩
theorem mem_entU {m : List Gs} {c : ByteArray} {v : Value} (h : (.string c, v) ∈ m.map entU) : ∃ g ∈ m, nameG g = c ∧ v = agU g.2 := by
  obtain ⟨g, hg, e⟩ := List.mem_map.1 h
  unfold entU at e
  simp only [Prod.mk.injEq, Value.string.injEq] at e
  exact ⟨g, hg, e.1, e.2.symm⟩
theorem mem_entL {m : List Lh} {c : ByteArray} {v : Value} (h : (.string c, v) ∈ m.map entL) : ∃ g ∈ m, nameL g = c ∧ v = agQ g.1 := by
  obtain ⟨g, hg, e⟩ := List.mem_map.1 h
  unfold entL at e
  simp only [Prod.mk.injEq, Value.string.injEq] at e
  exact ⟨g, hg, e.1, e.2.symm⟩
theorem mem_entH {m : List Lh} {c : ByteArray} {v : Value} (h : (.string c, v) ∈ m.map entH) : ∃ g ∈ m, nameL g = c ∧ v = .int .i64 g.2 := by
  obtain ⟨g, hg, e⟩ := List.mem_map.1 h
  unfold entH at e
  simp only [Prod.mk.injEq, Value.string.injEq] at e
  exact ⟨g, hg, e.1, e.2.symm⟩
theorem BkAt.drew {w : World} {B : Nat} {x : Bl} {ps bs : Nat} {b : Bk} (h : BkAt w B x ps bs b) : BkAt w.drew B x ps bs b := h.of_blocks fun _ _ => rfl
theorem BkAt.askG_yes {w : World} {B : Nat} {x : Bl} {ps bs : Nat} {b : Bk} (h : BkAt w B x ps bs b) {c : ByteArray} (hc : c.size ≤ maxLen) {g : Gs} (hg : g ∈ b.1) (e : nameG g = c) : (Instr.lookup 87 (.map (some x.g)) (.string c) true).run Tryz.prog w = .ok (.tuple #[.agg #[.string g.1.1, .int .i64 g.1.2], .bool true]) w :=
  h.G.ask_hit Tryz.keyedS Tryz.underlying87 (keyS hc) (List.mem_map.2 ⟨g, hg, by unfold entG; rw [← e]; rfl⟩)
theorem BkAt.askG_no {w : World} {B : Nat} {x : Bl} {ps bs : Nat} {b : Bk} (h : BkAt w B x ps bs b) {c : ByteArray} (hc : c.size ≤ maxLen) (hn : ∀ g ∈ b.1, nameG g ≠ c) : (Instr.lookup 87 (.map (some x.g)) (.string c) true).run Tryz.prog w = .ok (.tuple #[.agg #[.string ⟨#[]⟩, .int .i64 0], .bool false]) w :=
  h.G.ask_miss Tryz.keyedS Tryz.underlying87 (keyS hc) (Tryz.zeroValue37 w) fun v hv => by
    obtain ⟨g, hg, e, _⟩ := mem_entG hv
    exact hn g hg e
theorem BkAt.askL_yes {w : World} {B : Nat} {x : Bl} {ps bs : Nat} {b : Bk} (h : BkAt w B x ps bs b) {c : ByteArray} (hc : c.size ≤ maxLen) {g : Lh} (hg : g ∈ b.2.1) (e : nameL g = c) : (Instr.lookup 89 (.map (some x.l)) (.string c) true).run Tryz.prog w = .ok (.tuple #[.agg #[.string g.1.1, .string g.1.2.1, .int .i64 g.1.2.2.1, .int .i64 g.1.2.2.2], .bool true]) w :=
  h.L.ask_hit Tryz.keyedS Tryz.underlying89 (keyS hc) (List.mem_map.2 ⟨g, hg, by unfold entL; rw [← e]; rfl⟩)
theorem BkAt.askL_no {w : World} {B : Nat} {x : Bl} {ps bs : Nat} {b : Bk} (h : BkAt w B x ps bs b) {c : ByteArray} (hc : c.size ≤ maxLen) (hn : ∀ g ∈ b.2.1, nameL g ≠ c) : (Instr.lookup 89 (.map (some x.l)) (.string c) true).run Tryz.prog w = .ok (.tuple #[.agg #[.string ⟨#[]⟩, .string ⟨#[]⟩, .int .i64 0, .int .i64 0], .bool false]) w :=
  h.L.ask_miss Tryz.keyedS Tryz.underlying89 (keyS hc) (Tryz.zeroValue39 w) fun v hv => by
    obtain ⟨g, hg, e, _⟩ := mem_entL hv
    exact hn g hg e
end Go.Proofs.YtppodkkefegbkaaGreatDoor
namespace Go.Proofs.YtppodkkefegbkaaGreatDoor
open Go.RowKit Go.Lib Go.Sort
def encGs : Enc Gs where
  k := 6
  enc g := [.string g.1.1, .int .i64 g.1.2, .int .i64 g.2.1, .int .i64 g.2.2.1, .int .i64 g.2.2.2.1, .int .i64 g.2.2.2.2]
  len _ := rfl
  one g v hv := by simp at hv; rcases hv with rfl | rfl | rfl | rfl | rfl | rfl <;> rfl
def encLh : Enc Lh where
  k := 5
  enc l := [.string l.1.1, .string l.1.2.1, .int .i64 l.1.2.2.1, .int .i64 l.1.2.2.2, .int .i64 l.2]
  len _ := rfl
  one l v hv := by simp at hv; rcases hv with rfl | rfl | rfl | rfl | rfl <;> rfl
def encLn : Enc Ln where
  k := 5
  enc l := [.string l.1.1, .int .i64 l.1.2.1, .int .i64 l.1.2.2, .string l.2.1, .int .i64 l.2.2]
  len _ := rfl
  one l v hv := by simp at hv; rcases hv with rfl | rfl | rfl | rfl | rfl <;> rfl
def RefB (w : World) (B q : Nat) (b : Bk) : Prop := ∃ vG vL vS, w.heap[q]? = some (.cells #[vG, vL, vS] 78 (0, 0)) ∧ encGs.Row w B 120 vG b.1 ∧ encLh.Row w B 131 vL b.2.1 ∧ encLn.Row w 0 48 vS b.2.2 ∧ B ≤ q
theorem RefB.below {w w' : World} {B q : Nat} {b : Bk} (h : RefB w B q b) (hb : Below w.heap.size w w') : RefB w' B q b := by
  obtain ⟨vG, vL, vS, h1, h2, h3, h4, h5⟩ := h
  exact ⟨vG, vL, vS, (hb.block q (Array.getElem?_eq_some_iff.1 h1).1).trans h1, h2.below hb, h3.below hb, h4.below hb, h5⟩
theorem findG_any (w : World) (B q : Nat) (b : Bk) (c : ByteArray) (h : RefB w B q b) (h200 : b.1.length ≤ 1000) :
    Calls Tryz.prog 61 #[.pointer (some ⟨q, 0, none⟩), .string c] w fun e w' => e = .returned (.int .i64 (findI nameG b.1 c)) ∧ w' = w := by
  obtain ⟨vG, vL, vS, hblk, hG, hL, hS, hq⟩ := h
  have hv : w.cell? ⟨q, 0, none⟩ = some vG := by rw [cell_of_heap hblk]; rfl
  rcases hG.forms with ⟨rfl, hm⟩ | ⟨g, cap, rfl, -, hg, hcap, -, hrow⟩
  · rw [hm]
    clear hblk hG hL hS hm
    go_enter Tryz.func61, Tryz.ntmps61
    go_wp2
    refine wp_loop_rounds 1 ?_
    rw [rounds_succ]
    go_wp2
    go_ret
    exact ⟨rfl, rfl⟩
  · generalize hlm : b.1 = m at *
    clear hblk hG hL hS hlm
    generalize hln : m.length = ln at *
    have HN : Hid (ln = m.length) := hln.symm
    clear hln hcap
    have HR : Hid (∀ i x k, m[i]? = some x → k < encGs.k → w.cell? ⟨g, i * encGs.k + k, none⟩ = (encGs.enc x)[k]?) := hrow
    clear hrow
    go_enter Tryz.func61, Tryz.ntmps61
    go_wp2
    go_loopw [5] (fun i wr => ∃ k : Nat, k ≤ ln ∧ i = .int .i64 k ∧ wr = w ∧ ∀ x ∈ m.take k, x.1.1 ≠ c) (fun i _ => ln - (RowKit.intOf i).toNat)
    case atStart => exact ⟨0, Nat.zero_le _, rfl, rfl, by simp⟩
    case round =>
      obtain ⟨k, hk, rfl, rfl, hno⟩ := hrel
      have HNo : Hid (∀ x ∈ m.take k, x.1.1 ≠ c) := hno
      clear hno
      by_cases hlt : k < ln
      · have hkm : k < m.length := by rw [← HN.out]; exact hlt
        obtain ⟨x, hx⟩ : ∃ x, m[k]? = some x := ⟨_, List.getElem?_eq_getElem hkm⟩
        have HX : Hid (m[k]? = some x) := hx
        have c0 : wr.cell? ⟨g, k * 6, none⟩ = some (.string x.1.1) := (HR.out k x 0 hx (by decide)).trans rfl
        clear hx hkm
        generalize hy : x.1.1 = y at *
        have HY : Hid (x.1.1 = y) := hy
        clear hy
        have e3 := same_eq y c
        by_cases hc : y = c
        · rw [decide_eq_true hc] at e3
          go_wp2
          go_ret
          exact ⟨by rw [findI_at (f := nameG) HX.out (HY.out.trans hc) HNo.out]; rfl, by first | rfl | trivial⟩
        · rw [decide_eq_false hc] at e3
          have HK : Hid (x.1.1 ≠ c) := fun e => hc (HY.out.symm.trans e)
          clear hc
          go_wp2
          go_roundw
          case rel => exact ⟨k + 1, by omega, by go_num, by first | rfl | trivial, takeI_next HX.out HNo.out HK.out⟩
          case measure => simp [RowKit.intOf]; omega
      · have e : m.take k = m := List.take_of_length_le (by rw [← HN.out]; omega)
        have HE : Hid (∀ x ∈ m, x.1.1 ≠ c) := fun x hx => HNo.out x (by rw [e]; exact hx)
        clear e
        go_wp2
        go_ret
        exact ⟨by rw [findI_none (f := nameG) HE.out]; rfl, by first | rfl | trivial⟩
theorem findL_any (w : World) (B q : Nat) (b : Bk) (c : ByteArray) (h : RefB w B q b) (h200 : b.2.1.length ≤ 1000) :
    Calls Tryz.prog 51 #[.pointer (some ⟨q, 0, none⟩), .string c] w fun e w' => e = .returned (.int .i64 (findI nameL b.2.1 c)) ∧ w' = w := by
  obtain ⟨vG, vL, vS, hblk, hG, hL, hS, hq⟩ := h
  have hv : w.cell? ⟨q, 1, none⟩ = some vL := by rw [cell_of_heap hblk]; rfl
  rcases hL.forms with ⟨rfl, hm⟩ | ⟨g, cap, rfl, -, hg, hcap, -, hrow⟩
  · rw [hm]
    clear hblk hG hL hS hm
    go_enter Tryz.func51, Tryz.ntmps51
    go_wp2
    refine wp_loop_rounds 1 ?_
    rw [rounds_succ]
    go_wp2
    go_ret
    exact ⟨rfl, rfl⟩
  · generalize hlm : b.2.1 = m at *
    clear hblk hG hL hS hlm
    generalize hln : m.length = ln at *
    have HN : Hid (ln = m.length) := hln.symm
    clear hln hcap
    have HR : Hid (∀ i x k, m[i]? = some x → k < encLh.k → w.cell? ⟨g, i * encLh.k + k, none⟩ = (encLh.enc x)[k]?) := hrow
    clear hrow
    go_enter Tryz.func51, Tryz.ntmps51
    go_wp2
    go_loopw [5] (fun i wr => ∃ k : Nat, k ≤ ln ∧ i = .int .i64 k ∧ wr = w ∧ ∀ x ∈ m.take k, x.1.1 ≠ c) (fun i _ => ln - (RowKit.intOf i).toNat)
    case atStart => exact ⟨0, Nat.zero_le _, rfl, rfl, by simp⟩
    case round =>
      obtain ⟨k, hk, rfl, rfl, hno⟩ := hrel
      have HNo : Hid (∀ x ∈ m.take k, x.1.1 ≠ c) := hno
      clear hno
      by_cases hlt : k < ln
      · have hkm : k < m.length := by rw [← HN.out]; exact hlt
        obtain ⟨x, hx⟩ : ∃ x, m[k]? = some x := ⟨_, List.getElem?_eq_getElem hkm⟩
        have HX : Hid (m[k]? = some x) := hx
        have c0 : wr.cell? ⟨g, k * 5, none⟩ = some (.string x.1.1) := (HR.out k x 0 hx (by decide)).trans rfl
        clear hx hkm
        generalize hy : x.1.1 = y at *
        have HY : Hid (x.1.1 = y) := hy
        clear hy
        have e3 := same_eq y c
        by_cases hc : y = c
        · rw [decide_eq_true hc] at e3
          go_wp2
          go_ret
          exact ⟨by rw [findI_at (f := nameL) HX.out (HY.out.trans hc) HNo.out]; rfl, by first | rfl | trivial⟩
        · rw [decide_eq_false hc] at e3
          have HK : Hid (x.1.1 ≠ c) := fun e => hc (HY.out.symm.trans e)
          clear hc
          go_wp2
          go_roundw
          case rel => exact ⟨k + 1, by omega, by go_num, by first | rfl | trivial, takeI_next HX.out HNo.out HK.out⟩
          case measure => simp [RowKit.intOf]; omega
      · have e : m.take k = m := List.take_of_length_le (by rw [← HN.out]; omega)
        have HE : Hid (∀ x ∈ m, x.1.1 ≠ c) := fun x hx => HNo.out x (by rw [e]; exact hx)
        clear e
        go_wp2
        go_ret
        exact ⟨by rw [findI_none (f := nameL) HE.out]; rfl, by first | rfl | trivial⟩
end Go.Proofs.YtppodkkefegbkaaGreatDoor
namespace Go.Proofs.YtppodkkefegbkaaGreatDoor
open Go.RowKit Go.Lib Go.Sort
variable {α : Type}
theorem Enc.Row.shape {E : Enc α} {w : World} {B : Nat} {T : TypeId} {v : Value} {m : List α} (h : E.Row w B T v m) : ∃ a c, v = .slice a m.length c := by
  rcases h.forms with ⟨rfl, rfl⟩ | ⟨g, cap, rfl, _⟩
  · exact ⟨none, 0, rfl⟩
  · exact ⟨_, _, rfl⟩
theorem Enc.Row.grown {E : Enc α} {w w' : World} {B : Nat} {T : TypeId} {v : Value} {m : List α} {r : Option Nat} (h : E.Row w B T v m) (hg : w.grownBy w' r) (hne : ∀ k, v.ownBlock = some k → some k ≠ r) : E.Row w' B T v m :=
  h.kept fun g hgb => hg.block g (h.lt hgb).2 (hne g hgb)
theorem Enc.Row.news {E : Enc α} {w : World} {B : Nat} {T : TypeId} {g cap : Nat} {m : List α} (h : E.Row w B T (.slice (some ⟨g, 0, none⟩) m.length cap) m) (a n o : Nat) (ha : a + n ≤ m.length) (ho : n = 0 ∨ o = a * E.k) :
    ∀ j u, (E.flat ((m.drop a).take n))[j]? = some u → w.cell? ((⟨g, o, none⟩ : Addr).add j) = some u := fun j u hu => by
  have hl : (E.flat ((m.drop a).take n)).length = n * E.k := by rw [E.flat_len, List.length_take, List.length_drop]; congr 1; omega
  have hj : j < n * E.k := by rw [← hl]; exact (List.getElem?_eq_some_iff.1 hu).1
  have hn : n ≠ 0 := fun e => by subst e; simp at hj
  have ho' : o = a * E.k := ho.resolve_left hn
  have hadd : (⟨g, o, none⟩ : Addr).add j = ⟨g, o + j, none⟩ := by unfold Addr.add; split <;> simp_all
  have hlt : a * E.k + j < m.length * E.k := by
    have : (a + n) * E.k ≤ m.length * E.k := Nat.mul_le_mul_right _ ha
    rw [Nat.add_mul] at this
    omega
  rw [hadd, ho', World.ownsRow.cellAt h (a * E.k + j) hlt]
  have e1 : E.flat ((m.drop a).take n) = ((E.flat m).drop (a * E.k)).take (n * E.k) := by
    rw [E.flat_drop m a (by omega), E.flat_take _ n (by rw [List.length_drop]; omega)]
  rw [e1, List.getElem?_take, if_pos hj, List.getElem?_drop] at hu
  exact hu
theorem Enc.news_len (E : Enc α) (m : List α) (a n : Nat) (ha : a + n ≤ m.length) : (E.flat ((m.drop a).take n)).length = n * E.k := by
  rw [E.flat_len, List.length_take, List.length_drop]; congr 1; omega
theorem Enc.Row.apart {E : Enc α} {w : World} {B q : Nat} {T T' : TypeId} {v : Value} {m : List α} {cs : Array Value} {fr : Nat × Nat} (h : E.Row w B T v m) (hq : w.heap[q]? = some (.cells cs T' fr)) (hT : T ≠ T') : ∀ g, v.ownBlock = some g → g ≠ q := fun g hg e => by
  subst e
  rcases h.2 with ⟨h1, _⟩ | ⟨g', cap, cur, hv, _, hg', _⟩
  · rw [h1] at hg; cases hg
  · rw [hv] at hg
    have e : g' = g := by simpa [Value.ownBlock] using hg
    subst e
    rw [hq] at hg'
    injection hg' with hg'
    injection hg' with _ h2 _
    exact hT h2.symm
theorem Enc.Row.setOther {E : Enc α} {w : World} {B q i : Nat} {T : TypeId} {v : Value} {m : List α} (h : E.Row w B T v m) (hq : ∀ g, v.ownBlock = some g → g ≠ q) (x : Value) : E.Row (w.setCell ⟨q, i, none⟩ x) B T v m :=
  h.kept fun g hg => Below.heap_setCell w ⟨q, i, none⟩ x g (hq g hg)
theorem RefB.setG {w : World} {B q : Nat} {b : Bk} {vG vL vS v : Value} {m : List Gs} (hb : w.heap[q]? = some (.cells #[vG, vL, vS] 78 (0, 0))) (h : encGs.Row w B 120 v m) (hL : encLh.Row w B 131 vL b.2.1) (hS : encLn.Row w 0 48 vS b.2.2) (hq : B ≤ q) : RefB (w.setCell ⟨q, 0, none⟩ v) B q (m, b.2.1, b.2.2) :=
  ⟨v, vL, vS, set_cell hb 0 v rfl, h.setOther (h.apart hb (by decide)) _, hL.setOther (hL.apart hb (by decide)) _, hS.setOther (hS.apart hb (by decide)) _, hq⟩
theorem RefB.setL {w : World} {B q : Nat} {b : Bk} {vG vL vS v : Value} {m : List Lh} (hb : w.heap[q]? = some (.cells #[vG, vL, vS] 78 (0, 0))) (h : encLh.Row w B 131 v m) (hG : encGs.Row w B 120 vG b.1) (hS : encLn.Row w 0 48 vS b.2.2) (hq : B ≤ q) : RefB (w.setCell ⟨q, 1, none⟩ v) B q (b.1, m, b.2.2) :=
  ⟨vG, v, vS, set_cell hb 1 v rfl, hG.setOther (hG.apart hb (by decide)) _, h.setOther (h.apart hb (by decide)) _, hS.setOther (hS.apart hb (by decide)) _, hq⟩
end Go.Proofs.YtppodkkefegbkaaGreatDoor
namespace Go.Proofs.YtppodkkefegbkaaGreatDoor
open Go.Lib Go.Sort
end Go.Proofs.YtppodkkefegbkaaGreatDoor
namespace Go.Proofs.YtppodkkefegbkaaGreatDoor
open Go.RowKit Go.Lib Go.Sort
def bkTo (l : List En) : Nat → Bk
  | 0 => ([], [], [])
  | k + 1 => match l[k]? with
    | some e => (doB (bkTo l k) e).1
    | none => bkTo l k
theorem bkTo_succ {l : List En} {k : Nat} {e : En} (h : l[k]? = some e) : bkTo l (k + 1) = (doB (bkTo l k) e).1 := by
  show (match l[k]? with | some e => (doB (bkTo l k) e).1 | none => bkTo l k) = _
  rw [h]
theorem bkTo_ok (l : List En) : ∀ k, BkOk (bkTo l k)
  | 0 => BkOk.nil
  | k + 1 => by
    cases h : l[k]? with
    | none =>
      have e : bkTo l (k + 1) = bkTo l k := by
        show (match l[k]? with | some e => (doB (bkTo l k) e).1 | none => bkTo l k) = _
        rw [h]
      rw [e]; exact bkTo_ok l k
    | some e => rw [bkTo_succ h]; exact (bkTo_ok l k).do_ e
end Go.Proofs.YtppodkkefegbkaaGreatDoor
namespace Go.Proofs.YtppodkkefegbkaaGreatDoor
open Go.RowKit Go.Lib
theorem faulted2_of (v : Value) (c n : Int) (w : World) (hc : 0 < c) (hv : ∀ w1, Below w.heap.size w w1 → Calls Tryz.prog 40 #[v] w1 fun e w' => e = .returned (.tuple #[.int .i64 c, .int .i64 n]) ∧ Below w1.heap.size w1 w') :
    Calls Tryz.prog 14 #[v, .agg #[.int .i64 c, .int .i64 n]] w fun e w' => e = .returned (.bool true) ∧ Below w.heap.size w w' := by
  have hB : Below w.heap.size w (w.alloc (.cells #[.int .i64 c, .int .i64 n] 53)) := (Below.refl _ w).alloc (Nat.le_refl _) _
  have hC := hv _ hB
  have h0 : (c == 0) = false := by simp; omega
  have k0 : (w.alloc (.cells #[.int .i64 c, .int .i64 n] 53)).cell? ⟨w.heap.size, 0, none⟩ = some (.int .i64 c) := by rw [World.cell?_alloc_at _ _ _ _ rfl]; rfl
  have k1 : (w.alloc (.cells #[.int .i64 c, .int .i64 n] 53)).cell? ⟨w.heap.size, 1, none⟩ = some (.int .i64 n) := by rw [World.cell?_alloc_at _ _ _ _ rfl]; rfl
  have HC : Hid (Calls Tryz.prog 40 _ _ _) := hC
  have HB : Hid (Below _ _ _) := hB
  clear hC hv hB
  go_enter Tryz.func14, Tryz.ntmps14
  go_wp2_with (go_at_call 40; refine HC.out.mono ?_; rintro e w1 ⟨rfl, hb1⟩; have j0 := (hb1.cell (p := ⟨w.heap.size, 0, none⟩) (cell_lt k0)).trans k0; have j1 := (hb1.cell (p := ⟨w.heap.size, 1, none⟩) (cell_lt k1)).trans k1)
  go_ret
  exact ⟨rfl, HB.out.trans (hb1.mono HB.out.size)⟩
end Go.Proofs.YtppodkkefegbkaaGreatDoor
namespace Go.Proofs.YtppodkkefegbkaaGreatDoor
open Go.Joins Go.Deep
open Go.Sort Go.Lib
open Go.ChangeMaps (open_string shut_string)
open Go.ChangeShapes Go.WideShapes Go.ChangeAt Go.WideMaps Go.WideElems Go.RowKit
def encEn (e : En) : List Value := [.string e.1, .string e.2.1.1, .int .i64 e.2.1.2, .string e.2.2.1.1, .string e.2.2.1.2.1, .int .i64 e.2.2.1.2.2.1, .int .i64 e.2.2.1.2.2.2, .string e.2.2.2.1.1, .int .i64 e.2.2.2.1.2.1, .int .i64 e.2.2.2.1.2.2, .string e.2.2.2.2.1.1, .int .i64 e.2.2.2.2.1.2.1, .int .i64 e.2.2.2.2.1.2.2, .int .i64 e.2.2.2.2.2]
theorem open_ent_cells {H : Type} {enc : TypeId × Value → H} {W : World} {base n : Nat} {cs : List Value} {x : DataW H × List MemPlace} {sp : Nat → Bool} {hd : Bool} (hl : cs.length = 14) (h : DataW.trod enc Tryz.prog W base sp hd n 43 cs = some x) :
    ∃ e : En, cs = encEn e ∧ SzE e := by
  match cs, hl with
  | [c0, c1, c2, c3, c4, c5, c6, c7, c8, c9, c10, c11, c12, c13], _ =>
    obtain ⟨xs, m, _, _, _, hlen, hg⟩ := DataW.trod_struct Tryz.underlying43 h
    match xs, hlen with
    | [y0, y1, y2, y3, y4, y5], _ =>
      have h0 := hg 0 _ rfl
      have h1 := hg 1 _ rfl
      have h2 := hg 2 _ rfl
      have h3 := hg 3 _ rfl
      have h4 := hg 4 _ rfl
      have h5 := hg 5 _ rfl
      simp [Tryz.cStr, Tryz.cInt, Tryz.cPla, Tryz.cGoo, Tryz.cLot] at h0 h1 h2 h3 h4 h5
      obtain ⟨k, e0, _, wk⟩ := DataW.trod_string Tryz.underlying9 h0
      obtain ⟨g, g0, g1, wg⟩ := open_gd h1
      obtain ⟨o, o0, o1, o2, o3, wo0, wo1⟩ := open_lo h2
      obtain ⟨f, f0, f1, f2, wf⟩ := open_pl h3
      obtain ⟨t, t0, t1, t2, wt⟩ := open_pl h4
      obtain ⟨n, e5, _, wn⟩ := DataW.trod_int Tryz.underlying3 h5
      simp at e0 e5
      subst e0 e5 g0 g1 o0 o1 o2 o3 f0 f1 f2 t0 t1 t2
      exact ⟨(k, g, o, f, t, n), rfl, ⟨wk, wg, wo0, wo1, wf, wt⟩⟩
theorem open_ents {H : Type} {enc : TypeId × Value → H} {W : World} {b0 : Nat} {v : Value} {dd : DataW H} {ps : List MemPlace} {sp : Nat → Bool} {hd : Bool} (hv : Value.okWide Tryz.prog W .any b0 22 v) (h : DataW.Trod enc Tryz.prog W 0 sp hd 22 v dd ps) :
    (∃ ad c, v = .slice ad 0 c) ∨ ∃ b off c l, 1 ≤ l.length ∧ l.length ≤ maxLen ∧ v = .slice (some ⟨b, off, none⟩) l.length c ∧ Ents W b off l ∧ ∀ e ∈ l, SzE e := by
  obtain ⟨a0, len, cap, rfl⟩ := okWide_slice Tryz.underlying22 hv
  obtain ⟨fuel, hf⟩ := h
  rcases open_slice Tryz.underlying22 hf with ⟨hcs, _⟩ | ⟨a, len', cap', m, n, D, Pq, hcs, _, hl, hm, hmm, _, hx⟩
  · simp [Value.cells] at hcs
    obtain ⟨rfl, rfl, rfl⟩ := hcs
    exact Or.inl ⟨none, 0, rfl⟩
  · simp [Value.cells] at hcs
    obtain ⟨rfl, rfl, rfl⟩ := hcs
    rcases Nat.eq_zero_or_pos len with rfl | hpos
    · exact Or.inl ⟨_, _, rfl⟩
    · right
      rw [Tryz.cEnt] at hx
      have hlm : len ≤ m := by rw [hmm]; split <;> omega
      obtain ⟨f, hfq⟩ := choose_lt (α := En) (n := len) (p := fun i e => W.cells? 0 (a.add (i * 14)) 14 = some (encEn e) ∧ SzE e) (fun i hi => by
        obtain ⟨cs', h1, h2⟩ := hx i (by omega)
        obtain ⟨_, hlen, _⟩ := World.cells?_some h1
        obtain ⟨e, rfl, hz⟩ := open_ent_cells hlen h2
        exact ⟨e, h1, hz⟩)
      have hcell : ∀ i c, i < len → c < 14 → W.cell? (a.add (i * 14 + c)) = (encEn (f i))[c]? := by
        intro i c hi hc
        have := (World.cells?_some (hfq i hi).1).2.2 c hc
        rw [add_add] at this
        exact this
      have hsp : a.spot = none := by
        have := World.cell?_spot (hcell 0 0 hpos (by decide))
        simpa [Addr.add] using this
      obtain ⟨b, off, spot⟩ := a
      simp only at hsp
      subst hsp
      have hsz : ((List.range len).map f).length = len := by simp
      have hget : ∀ i e, ((List.range len).map f)[i]? = some e → i < len ∧ e = f i := fun i e he => by
        have hi := (List.getElem?_eq_some_iff.1 he).1
        rw [hsz] at hi
        refine ⟨hi, ?_⟩
        rw [List.getElem?_map, List.getElem?_range hi] at he
        simpa using he.symm
      refine ⟨b, off, cap, (List.range len).map f, by rw [hsz]; exact hpos, by rw [hsz]; omega, by rw [hsz], ⟨?_, ?_⟩, ?_⟩
      · have := hcell 0 0 hpos (by decide)
        rw [WideShapes.add_plain] at this
        exact cell_lt (this.trans rfl)
      · intro k e he
        obtain ⟨hk, rfl⟩ := hget k e he
        have hc : ∀ c, c < 14 → W.cell? ⟨b, off + k * 14 + c, none⟩ = (encEn (f k))[c]? := fun c hc => by
          have := hcell k c hk hc
          rw [WideShapes.add_plain, ← Nat.add_assoc] at this
          exact this
        exact ⟨hc 0 (by decide), hc 1 (by decide), hc 2 (by decide), hc 3 (by decide), hc 4 (by decide), hc 5 (by decide), hc 6 (by decide), hc 7 (by decide), hc 8 (by decide), hc 9 (by decide), hc 10 (by decide), hc 11 (by decide), hc 12 (by decide), hc 13 (by decide)⟩
      · intro e he
        obtain ⟨k, hk⟩ := List.getElem?_of_mem he
        obtain ⟨hk', rfl⟩ := hget k e hk
        exact (hfq k hk').2
end Go.Proofs.YtppodkkefegbkaaGreatDoor
namespace Go.Proofs.YtppodkkefegbkaaGreatDoor
open Go.RowKit Go.Shelf Go.Lib
attribute [local go_sem] Oper.semAt_some
theorem perm_map_consG {α : Type} {f : α → Ent} {t : List α} {x : Ent} {T : List Ent} (h : (t.map f).Perm (x :: T)) : ∃ l t', x = f l ∧ t.Perm (l :: t') ∧ T.Perm (t'.map f) := by
  obtain ⟨l, hl, e⟩ := List.mem_map.1 (h.mem_iff.2 (List.mem_cons_self ..))
  obtain ⟨s1, s2, rfl⟩ := List.append_of_mem hl
  have h1 : (s1 ++ l :: s2).Perm (l :: (s1 ++ s2)) := List.perm_middle
  refine ⟨l, s1 ++ s2, e.symm, h1, ?_⟩
  have h2 := (h1.map f).symm.trans h
  rw [List.map_cons, e] at h2
  exact h2.cons_inv.symm
section
variable {F : Fence} {n : Nat} {P : Program} {w : World} {ops : Array Oper} {rest : List Oper} {o : Oper} {a : Act} {Q : Exit → Act → World → Prop}
theorem wpLI_range (hg : o.guard = none) (m : Operand) (t : TypeId) (hop : o.op = Op.range t m) (k e : TypeId) (ht : P.underlying t = some (.map k e)) (b : Nat) (L : List Ent) (hm : a.eval m = .map (some b)) (h : MapL P k w b L)
    (hK : ∀ w', RangeL P k w' b w.heap.size L L → w.grownBy w' none → w'.heap.size = w.heap.size + 1 → wpListIn F n P ops Q rest (a.put o.dst (.pointer (some ⟨w.heap.size, 0, none⟩))) w') : wpListIn F n P ops Q (o :: rest) a w := by
  refine wpListIn_plain hg fun K' hK' => ?_
  obtain ⟨w', hrun, r1, r2, r3⟩ := h.range ht
  unfold Oper.wpIn
  refine ⟨?_, ?_⟩
  · simp [Oper.about, hop]
  · rw [Oper.semAt_plain F _ _ (by rw [hop]; intro c hc'; cases hc')]
    simp [execOp, hop, hm, hrun, Result.andThen]
    exact hK' _ _ (hK w' r1 r2 r3)
theorem wpLI_next (hg : o.guard = none) (it : Operand) (hop : o.op = Op.next it false) (k : TypeId) (b r : Nat) (L : List Ent) (t : List Gs) (hit : a.eval it = .pointer (some ⟨r, 0, none⟩)) (h : RangeL P k w b r L (t.map entG))
    (hDone : t = [] → wpListIn F n P ops Q rest (a.put o.dst (.tuple #[.bool false])) w)
    (hMore : ∀ (zc : ByteArray) (zp z1 z2 z3 z4 : Int) t' w', t.Perm (((zc, zp), z1, z2, z3, z4) :: t') → RangeL P k w' b r L (t'.map entG) → w.grownBy w' (some r) → w'.heap.size = w.heap.size → (Instr.entry (.pointer (some ⟨r, 0, none⟩))).run P w' = .ok (.tuple #[.string zc, .agg #[.string zc, .int .i64 zp]]) w' →
      wpListIn F n P ops Q rest (a.put o.dst (.tuple #[.bool true, .string zc, .agg #[.string zc, .int .i64 zp]])) w') : wpListIn F n P ops Q (o :: rest) a w := by
  refine wpListIn_plain hg fun K' hK' => ?_
  unfold Oper.wpIn
  refine ⟨by simp [Oper.about, hop], ?_⟩
  rw [Oper.semAt_plain F _ _ (by rw [hop]; intro c hc'; cases hc')]
  rcases h.next o.type with ⟨h0, hrun⟩ | ⟨x, T', w', hp, hrun, hrg, hgr, hsz, hen⟩
  · simp [execOp, hop, hit, hrun, Result.andThen]
    exact hK' _ _ (hDone (by simpa using h0))
  · obtain ⟨l, t', rfl, h1, h2⟩ := perm_map_consG hp
    obtain ⟨⟨zc, zp⟩, z1, z2, z3, z4⟩ := l
    simp [execOp, hop, hit, hrun, Result.andThen]
    exact hK' _ _ (hMore zc zp z1 z2 z3 z4 t' w' h1 (hrg.perm h2) hgr hsz hen)
end
theorem RangeL.of_walks {P : Program} {k : TypeId} {w w' : World} {b r : Nat} {L T : List Ent} (h : RangeL P k w b r L T) (hk : KeepsWalks w w') : RangeL P k w' b r L T := by
  obtain ⟨es, clock, since, seen, c0, hb, hs, hke, hL, hr, rest⟩ := h
  exact ⟨es, clock, since, seen, c0, hk.same b _ hb rfl, hs, hke, hL, hk.same r _ hr rfl, rest⟩
theorem RangeL.iter_walk {P : Program} {k : TypeId} {w : World} {b r : Nat} {L T : List Ent} (h : RangeL P k w b r L T) : ∃ o : Obj, w.heap[r]? = some o ∧ o.isWalk = true := by
  obtain ⟨es, clock, since, seen, c0, hb, hs, hke, hL, hr, rest⟩ := h
  exact ⟨_, hr, rfl⟩
theorem valuesG_in (F : Fence) (n : Nat) (hF : F.fn 86) (hro : F.round = none) (hn : 1 ≤ n) (l Bm b : Nat) (m : List Gs) (J Jx : List Gs → World → Prop)
    (hY : ∀ pre x W, J pre W → pre.length < m.length → YieldAt F (n - 1) Tryz.prog l #[.agg #[.string x.1.1, .int .i64 x.1.2]] W fun e W' =>
      (e = .returned (.bool true) ∧ J (pre ++ [x]) W' ∧ KeepsWalks W W') ∨ (e = .returned (.bool false) ∧ Jx (pre ++ [x]) W'))
    (W : World) (hJ : AbidesFrom W.heap.size J) (hm : W.cell? ⟨Bm, 0, none⟩ = some (.map (some b))) (hmap : MapL Tryz.prog 9 W b (m.map entG)) (h0 : J [] W) :
    CallsIn F n Tryz.prog 86 #[.func (.yield l) #[] #[], .pointer (some ⟨Bm, 0, none⟩)] W fun e W' => (∃ v, e = .returned v) ∧
      ((∃ xs, xs.Perm m ∧ J xs W') ∨ (∃ pre, True ∧ Jx pre W')) := by
  refine callsIn_of_wp Tryz.func86 rfl hF ?_ hro
  simp only [Tryz.ntmps86, List.size_toArray, List.length_cons, List.length_nil, Nat.reduceAdd, Nat.reduceSub, Array.replicate_succ, Array.replicate_zero, List.push_toArray, List.append_toArray, List.nil_append, List.cons_append]
  gi_wp2_with (first
    | (gi_at_range; refine wpLI_range rfl _ 87 rfl 9 37 Tryz.underlying87 b _ rfl hmap ?_; intro w0 hrg0 hg0 hs0)
    | gi_in)
  go_frame
  have hj0 : J [] w0 := hJ [] W w0 none h0 hg0 (fun r e => by cases e)
  clear hs0
  gi_loopw [4] (fun _ wr => ∃ d t : List Gs, (d ++ t).Perm m ∧ RangeL Tryz.prog 9 wr b W.heap.size (m.map entG) (t.map entG) ∧ J d wr) (fun _ wr => wr.rangeLeft b W.heap.size)
  case atStart => exact ⟨[], m, List.Perm.refl _, hrg0, hj0⟩
  case round =>
    obtain ⟨d, t, hp, hrg, hJs⟩ := hrel
    gi_wp2_with (first
      | (gi_at_next; refine wpLI_next rfl _ rfl 9 b W.heap.size _ t rfl hrg ?_ ?_)
      | gi_in)
    · intro ht
      subst ht
      gi_wp2
      go_end0
      exact ⟨⟨_, rfl⟩, .inl ⟨d, by simpa using hp, hJs⟩⟩
    · intro zc zp z1 z2 z3 z4 t' w2 hp1 hrg2 hg2 hs2 hen
      have hJ2 : J d w2 := hJ d wr w2 (some W.heap.size) hJs hg2 (fun r e => by cases e; exact ⟨Nat.le_refl _, hrg.iter_walk⟩)
      have hgN : w2.grownBy (w2.alloc (.cells #[.string zc, .int .i64 zp] 37)) none := World.grownBy_alloc w2 _ none
      have nN := heap_alloc_new w2 (.cells #[.string zc, .int .i64 zp] 37)
      obtain ⟨W2, hW2⟩ : ∃ W2, w2.alloc (.cells #[.string zc, .int .i64 zp] 37) = W2 := ⟨_, rfl⟩
      rw [hW2] at hgN nN
      have hJ3 : J d W2 := hJ d w2 W2 none hJ2 hgN (fun r e => by cases e)
      have hrg3 : RangeL Tryz.prog 9 W2 b W.heap.size (m.map entG) (t'.map entG) := hrg2.kept hgN (by simp) (by simp)
      have c0 : W2.cell? ⟨w2.heap.size, 0, none⟩ = some (.string zc) := by rw [cell_of_heap nN]; rfl
      have c1 : W2.cell? ⟨w2.heap.size, 1, none⟩ = some (.int .i64 zp) := by rw [cell_of_heap nN]; rfl
      have hlen : d.length < m.length := by have e1 := hp.length_eq; have e2 := hp1.length_eq; simp at e1 e2; omega
      obtain ⟨fn, tmps, assign, body, hy, hR⟩ := hY d ((zc, zp), z1, z2, z3, z4) W2 hJ3 hlen
      dsimp only at hy
      have hP : ((d ++ [((zc, zp), z1, z2, z3, z4)]) ++ t').Perm m := by
        rw [List.append_assoc]
        exact ((hp1.symm.append_left d)).trans hp
      have hM : wr.rangeLeft b W.heap.size = t'.length + 1 := by
        rw [hrg.left_eq]
        have := hp1.length_eq
        simpa using this
      clear hs2
      gi_wp2
      refine hR.mono ?_
      rintro e W3 (⟨rfl, hJ4, hk3⟩ | ⟨rfl, hJx3⟩)
      · gi_wp2
        have hrg4 := hrg3.of_walks hk3
        go_roundw
        case rel => exact ⟨d ++ [((zc, zp), z1, z2, z3, z4)], t', hP, hrg4, hJ4⟩
        case measure => rw [hrg4.left_eq, hM]; simp
      · gi_wp2
        refine bodyPost_ret (results_none rfl _ _ _) rfl ?_
        exact ⟨⟨_, rfl⟩, .inr ⟨_, trivial, hJx3⟩⟩
end Go.Proofs.YtppodkkefegbkaaGreatDoor
namespace Go.Proofs.YtppodkkefegbkaaGreatDoor
open Go.RowKit Go.Shelf Go.Lib
attribute [local go_sem] Oper.semAt_some
theorem valuesG_stops (F : Fence) (n : Nat) (hF : F.fn 86) (hro : F.round = none) (hn : 1 ≤ n) (Bm b : Nat) (m : List Gs) (w : World) (hB : Bm < w.heap.size) (hc : w.cell? ⟨Bm, 0, none⟩ = some (.map (some b))) (hmap : MapL Tryz.prog 9 w b (m.map entG)) :
    SeqStopsK F n Tryz.prog 86 #[.pointer (some ⟨Bm, 0, none⟩)] (fun x : Gs => #[.agg #[.string x.1.1, .int .i64 x.1.2]]) KeepsWalks (fun xs => xs.Perm m) (fun _ => True) m.length w := fun l J Jx W hW hJ _ hY h0 =>
  valuesG_in F n hF hro hn l Bm b m J Jx hY W hJ ((hW.cell (p := ⟨Bm, 0, none⟩) hB).trans hc) (hmap.below hW hmap.lt) h0
def encGd : Enc Gs where
  k := 2
  enc g := [.string g.1.1, .int .i64 g.1.2]
  len _ := rfl
  one g v hv := by simp at hv; rcases hv with rfl | rfl <;> rfl
theorem Tryz.infoGd : (Tryz.prog.info? 37).map (fun i => (i.zero, i.size, i.bytes)) = some (some (.agg #[.string ⟨#[]⟩, .int .i64 0]), 2, 24) := by kernel_rfl
theorem keeps_walks {W W' : World} (h : KeepsOthers W W') : KeepsWalks W W' := ⟨h.size, fun k o hk hw => h.same k o hk (Obj.not_cells_of_walk hw)⟩
theorem appendSeqG (Bm b : Nat) (m : List Gs) (w : World) (h30 : m.length ≤ 1000) (hB : Bm < w.heap.size) (hc : w.cell? ⟨Bm, 0, none⟩ = some (.map (some b))) (hmap : MapL Tryz.prog 9 w b (m.map entG)) :
    Calls Tryz.prog 111 #[.slice none 0 0, .func (.func 86) #[] #[.pointer (some ⟨Bm, 0, none⟩)]] w fun e w' => ∃ v xs, e = .returned v ∧ xs.Perm m ∧ w'.ownsRow w.heap.size 37 2 v xs.length (encGd.flat xs) ∧ (v = .slice none 0 0 ↔ xs = []) ∧ Below w.heap.size w w' := by
  obtain ⟨i0, hi, hz0, hz1, hz2⟩ := info_parts Tryz.infoGd
  refine (callsIn_wide (n := 3)).1 ?_
  have hro : Fence.wide.round = none := rfl
  refine callsIn_of_wp_marks Tryz.func111 rfl trivial ?_ hro
  simp only [Tryz.ntmps111, List.size_toArray, List.length_cons, List.length_nil, Nat.reduceAdd, Nat.reduceSub, Array.replicate_succ, Array.replicate_zero, List.push_toArray, List.append_toArray, List.nil_append, List.cons_append]
  gi_wp2
  have hB0 : Below w.heap.size w (w.alloc (.cells #[.slice none 0 0] 65)) := (Below.refl _ w).alloc (Nat.le_refl _) _
  have bO := Boxed.new w 65 (.slice none 0 0)
  have z0 : (w.alloc (.cells #[.slice none 0 0] 65)).heap.size = w.heap.size + 1 := by simp
  have hc0 := (hB0.cell (p := ⟨Bm, 0, none⟩) hB).trans hc
  have hm0 := hmap.below hB0 hmap.lt
  obtain ⟨W0, hW0⟩ : ∃ W0, w.alloc (.cells #[.slice none 0 0] 65) = W0 := ⟨_, rfl⟩
  rw [hW0] at hB0 bO z0 hc0 hm0 ⊢
  refine wpIn_rangeFunc_ownH hro (by decide) (gf := 86) (lb := #[.pointer (some ⟨Bm, 0, none⟩)]) rfl trivial (enters_of Tryz.func86 (by kernel_rfl) rfl)
    (valuesG_stops Fence.wide (3 - 1) trivial rfl (by decide) Bm b m W0 (by omega) hc0 hm0) walksK_t walksK_b (Below.refl _ _) (fun _ => rfl)
    (fun pre W => (∃ v, Boxed W w.heap.size 65 v ∧ W.ownsRow w.heap.size 37 2 v pre.length (encGd.flat pre) ∧ (v = .slice none 0 0 ↔ pre = [])) ∧ Below w.heap.size w W)
    (fun _ _ _ => False)
    (OwnFrom.and (Own.from (holdsRow_own w.heap.size w.heap.size 65 37 2 (fun pre => pre.length) (fun pre => encGd.flat pre) (fun pre v => v = .slice none 0 0 ↔ pre = [])) _) (ownFrom_below (Nat.le_refl _) (by omega)))
    (fun _ _ _ _ _ hs _ _ => hs)
    ⟨⟨_, bO, World.ownsRow_nil _ _ _ _, by simp⟩, hB0⟩
    (fun x a' W => ∃ Bx, W.heap[Bx]? = some (.cells #[.string x.1.1, .int .i64 x.1.2] 37 (0, 0)) ∧ a' = { tmps := #[.slice none 0 0, .func (.func 86) #[] #[.pointer (some ⟨Bm, 0, none⟩)], .pointer (some ⟨w.heap.size, 0, none⟩), undef, .slice none 0 0, .pointer (some ⟨Bx, 0, none⟩), .func (.func 86) #[] #[.pointer (some ⟨Bm, 0, none⟩)], .agg #[.string x.1.1, .int .i64 x.1.2], undef, undef, undef, undef, undef], defers := [] })
    (fun x a' s X Y row hs hg hrow => by
      obtain ⟨Bx, h1, h2⟩ := hs
      refine ⟨Bx, (hg.block Bx (Array.getElem?_eq_some_iff.1 h1).1 (fun e' => ?_)).trans h1, h2⟩
      obtain ⟨_, o, ho, hcl⟩ := hrow Bx e'.symm
      rw [h1] at ho
      cases ho
      cases hcl) ?assign ?body ?done ?stop
  case assign =>
    rintro l pre x W K ⟨⟨v, hv, hrow, hnil⟩, hB⟩ hK
    gi_wp2
    exact hK _ _ ((KeepsOthers.alloc _ _).from _) (keeps_walks (KeepsOthers.alloc _ _)) ⟨⟨v, hv.alloc _, hrow.alloc _, hnil⟩, hB.alloc hB.size _⟩ ⟨W.heap.size, heap_alloc_new W _, rfl⟩
  case body =>
    rintro l pre x a' W hl hr ⟨⟨v, hv, hrow, hnil⟩, hB⟩ ⟨Bx, hx, rfl⟩ hlt
    have hc := hv.cell
    have x0 : W.cell? ⟨Bx, 0, none⟩ = some (.string x.1.1) := by rw [cell_of_heap hx]; rfl
    have x1 : W.cell? ⟨Bx, 1, none⟩ = some (.int .i64 x.1.2) := by rw [cell_of_heap hx]; rfl
    gi_wp2_with (gi_at_builtin; refine wpListIn_append_own _ rfl _ _ 65 rfl w.heap.size 37 i0 (.agg #[.string ⟨#[]⟩, .int .i64 0]) 2 24 Tryz.underlying65 hi hz0 hz1 hz2 rfl (by decide) _ _ _ rfl (hrow.alloc _) ⟨W.heap.size, 0, none⟩ 1 1 (encGd.enc x) rfl rfl (World.news_of_block (heap_alloc_new W _)) (encGd.one _) (by unfold maxLen; omega) (by omega) (by have := hB.size; simp; omega) ?_; intro v' w1 hown' hgrow _; obtain ⟨g', cap', rfl⟩ := ownsRow_succ hown'; obtain ⟨hv1, hv2, hr2, hk2, hb2⟩ := hv.appended (by decide) hrow hB.size (Nat.le_refl _) hown' hgrow; have hc1 := hv1.cell; have hf1 := hv1.frozen)
    exact ⟨hk2.from _, keeps_walks hk2, ⟨_, hv2, by rw [encGd.flat_append]; simpa [Enc.flat] using hr2, by simp⟩, hB.trans hb2⟩
  case done =>
    rintro D ys W hD hS ⟨⟨v, hv, hrow, hnil⟩, hB⟩ hK
    have hc := hv.cell
    gi_wp2
    refine ⟨by simp, .inl ⟨_, _, rfl, run_takeDeferred hK, ?_⟩⟩
    exact ⟨_, results_tmp rfl _ _ _, v, ys, rfl, hS, ownsRow_putObj hrow _ hK rfl, hnil, hB.trans (belowK_b (w := w) (Nat.le_refl _) W D _ _ (by omega) hK rfl rfl)⟩
  case stop =>
    rintro D c pre W _ _ h _
    exact h.elim
end Go.Proofs.YtppodkkefegbkaaGreatDoor
namespace Go.Proofs.YtppodkkefegbkaaGreatDoor
open Go.Lib Go.Sort
variable {α : Type}
end Go.Proofs.YtppodkkefegbkaaGreatDoor
namespace Go.Proofs.YtppodkkefegbkaaGreatDoor
open Go.Lib Go.Sort
section
variable {α : Type} {f : α → ByteArray}
theorem name_uniq : ∀ {m : List α}, m.Pairwise (fun a b => zLt (f a) (f b) = true) → ∀ {x y : α}, x ∈ m → y ∈ m → f x = f y → x = y
  | [], _, x, y, hx, _, _ => by simp at hx
  | a :: m, h, x, y, hx, hy, e => by
    obtain ⟨h1, h2⟩ := List.pairwise_cons.1 h
    rcases List.mem_cons.1 hx with hx | hx
    · rcases List.mem_cons.1 hy with hy | hy
      · exact hx.trans hy.symm
      · have := h1 y hy
        rw [← hx, e, zLt_irrefl] at this
        cases this
    · rcases List.mem_cons.1 hy with hy | hy
      · have := h1 x hx
        rw [← hy, e, zLt_irrefl] at this
        cases this
      · exact name_uniq h2 hx hy e
end
theorem sumsB_mem {b : Bk} (hb : BkOk b) {g : Gs} (hg : g ∈ b.1) : sumsB b (nameG g) = g.2 := by
  unfold sumsB
  rcases findN_cases nameG b.1 (nameG g) with ⟨_, h2⟩ | ⟨x, h1, h2, h3⟩
  · exact absurd rfl (h2 g hg)
  · rw [h1, name_uniq hb.gs h2 hg h3]; rfl
end Go.Proofs.YtppodkkefegbkaaGreatDoor
