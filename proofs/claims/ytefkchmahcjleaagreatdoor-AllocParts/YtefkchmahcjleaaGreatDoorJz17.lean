/-
 The program's book in memory: four maps and a stock; what it keeps when other blocks are turned; what its maps answer at a name.
-/
import Derived.Test.YtefkchmahcjleaaGreatDoorQMap
import Derived.Test.YtefkchmahcjleaaGreatDoorJz14
import Derived.Test.YtefkchmahcjleaaGreatDoorJz15
import Derived.Laws.StructEq
import Derived.Test.YtefkchmahcjleaaGreatDoorJz16
set_option maxRecDepth 100000
set_option maxHeartbeats 16000000
namespace Go.Proofs.YtefkchmahcjleaaGreatDoor
open Go.RowKit Go.Lib Go.Sort
open Go.Maps (Keyed)
abbrev agG (g : Gd) : Value := .agg #[.string g.1, .int .i64 g.2]
abbrev agU (s : Su) : Value := .agg #[.int .i64 s.1, .int .i64 s.2.1, .int .i64 s.2.2.1, .int .i64 s.2.2.2]
abbrev agQ (l : Lo) : Value := .agg #[.string l.1, .string l.2.1, .int .i64 l.2.2.1, .int .i64 l.2.2.2]
def entG (g : Gs) : Ent := (.string g.1.1, agG g.1)
def entU (g : Gs) : Ent := (.string g.1.1, agU g.2)
def entL (l : Lh) : Ent := (.string l.1.1, agQ l.1)
def entH (l : Lh) : Ent := (.string l.1.1, .int .i64 l.2)
structure Bl where
 p : Nat
 g : Nat
 u : Nat
 l : Nat
 h : Nat
def Bl.all (x : Bl) : List Nat := [x.p, x.g, x.u, x.l, x.h]
structure BkAt (w : World) (B : Nat) (x : Bl) (ps bs : Nat) (b : Bk) : Prop where
 blk : w.heap[x.p]? = some (.cells #[.map (some x.g), .map (some x.u), .map (some x.l), .map (some x.h), .pointer (some ⟨ps, 0, none⟩)] 77 (0, 0))
 G : MapL Tryz.prog 9 w x.g (b.1.map entG)
 U : MapL Tryz.prog 9 w x.u (b.1.map entU)
 L : MapL Tryz.prog 9 w x.l (b.2.1.map entL)
 H : MapL Tryz.prog 9 w x.h (b.2.1.map entH)
 sblk : w.heap[ps]? = some (.cells #[.map (some bs)] 141 (0, 0))
 S : IsStock w ps bs b.2.2
 ok : BkOk b
 bp : B ≤ x.p
 bg : B ≤ x.g
 gu : x.g < x.u
 ul : x.u < x.l
 lh : x.l < x.h
 hs : x.h < bs
 bs : B ≤ ps
def IsBk (w : World) (B : Nat) (x : Bl) (b : Bk) : Prop := ∃ ps bs, BkAt w B x ps bs b
section
variable {w w' : World} {B : Nat} {x : Bl} {ps bs : Nat} {b : Bk}
theorem BkAt.lts (h : BkAt w B x ps bs b) : x.p < w.heap.size ∧ x.g < w.heap.size ∧ x.u < w.heap.size ∧ x.l < w.heap.size ∧ x.h < w.heap.size ∧ ps < w.heap.size ∧ bs < w.heap.size :=
 ⟨(Array.getElem?_eq_some_iff.1 h.blk).1, h.G.lt, h.U.lt, h.L.lt, h.H.lt, (Array.getElem?_eq_some_iff.1 h.sblk).1, h.S.lt.2⟩
theorem IsStock.of_blocks {p q : Nat} {m : List Ln} (h : IsStock w p q m) (h1 : w'.heap[p]? = w.heap[p]?) (h2 : w'.heap[q]? = w.heap[q]?) : IsStock w' p q m :=
 ⟨(World.cell?_of_block (a := ⟨p, 0, none⟩) h1).trans h.cell, h.map.of_block h2, h.wf⟩
theorem BkAt.of_blocks (h : BkAt w B x ps bs b) (hk : ∀ k, k = x.p ∨ k = x.g ∨ k = x.u ∨ k = x.l ∨ k = x.h ∨ k = ps ∨ k = bs → w'.heap[k]? = w.heap[k]?) : BkAt w' B x ps bs b where
 blk := (hk _ (by simp)).trans h.blk
 G := h.G.of_block (hk _ (by simp))
 U := h.U.of_block (hk _ (by simp))
 L := h.L.of_block (hk _ (by simp))
 H := h.H.of_block (hk _ (by simp))
 sblk := (hk _ (by simp)).trans h.sblk
 S := h.S.of_blocks (hk _ (by simp)) (hk _ (by simp))
 ok := h.ok
 bp := h.bp
 bg := h.bg
 gu := h.gu
 ul := h.ul
 lh := h.lh
 hs := h.hs
 bs := h.bs
theorem BkAt.low (h : BkAt w B x ps bs b) : ∀ k, k = x.p ∨ k = x.g ∨ k = x.u ∨ k = x.l ∨ k = x.h ∨ k = ps ∨ k = bs → B ≤ k ∧ k < w.heap.size := by
 have h1 := h.lts
 have := h.bp; have := h.bg; have := h.gu; have := h.ul; have := h.lh; have := h.hs; have := h.bs
 rintro k (rfl | rfl | rfl | rfl | rfl | rfl | rfl) <;> omega
theorem BkAt.all (h : BkAt w B x ps bs b) (hb : Below w.heap.size w w') : BkAt w' B x ps bs b := h.of_blocks fun k hk => hb.block k (h.low k hk).2
theorem IsBk.below (h : IsBk w B x b) (hb : Below w.heap.size w w') : IsBk w' B x b := by
 obtain ⟨ps, bs, h⟩ := h
 exact ⟨ps, bs, h.all hb⟩
theorem IsBk.off (h : IsBk w B x b) {y : List Nat} (hf : Off y w w') (hy : ∀ k ∈ y, k < B) : IsBk w' B x b := by
 obtain ⟨ps, bs, h⟩ := h
 exact ⟨ps, bs, h.of_blocks fun k hk => hf.block k (h.low k hk).2 fun e => by have := hy k e; have := (h.low k hk).1; omega⟩
theorem IsBk.ok (h : IsBk w B x b) : BkOk b := by
 obtain ⟨ps, bs, h⟩ := h
 exact h.ok
theorem IsBk.low (h : IsBk w B x b) : ∀ k ∈ x.all, B ≤ k ∧ k < w.heap.size := by
 obtain ⟨ps, bs, h⟩ := h
 intro k hk
 unfold Bl.all at hk
 simp at hk
 exact h.low k (by rcases hk with h | h | h | h | h <;> simp [h])
theorem IsBk.base (h : IsBk w B x b) : B ≤ w.heap.size := by
 have := h.low x.p (by simp [Bl.all])
 omega
theorem BkAt.cells (h : BkAt w B x ps bs b) : w.cell? ⟨x.p, 0, none⟩ = some (.map (some x.g)) ∧ w.cell? ⟨x.p, 1, none⟩ = some (.map (some x.u)) ∧ w.cell? ⟨x.p, 2, none⟩ = some (.map (some x.l)) ∧ w.cell? ⟨x.p, 3, none⟩ = some (.map (some x.h)) ∧ w.cell? ⟨x.p, 4, none⟩ = some (.pointer (some ⟨ps, 0, none⟩)) ∧ ∀ o, w.frozen? ⟨x.p, o, none⟩ = false :=
 ⟨by rw [cell_of_heap h.blk]; rfl, by rw [cell_of_heap h.blk]; rfl, by rw [cell_of_heap h.blk]; rfl, by rw [cell_of_heap h.blk]; rfl, by rw [cell_of_heap h.blk]; rfl, fun o => frozen_of_heap h.blk o⟩
end
variable {α : Type}
def findN (f : α → ByteArray) (m : List α) (c : ByteArray) : Option α := m.find? (fun x => decide (f x = c))
theorem findN_cases (f : α → ByteArray) (m : List α) (c : ByteArray) : (findN f m c = none ∧ ∀ x ∈ m, f x ≠ c) ∨ ∃ x, findN f m c = some x ∧ x ∈ m ∧ f x = c := by
 unfold findN
 cases h : m.find? (fun x => decide (f x = c)) with
 | none => exact Or.inl ⟨rfl, fun x hx => by simpa using List.find?_eq_none.1 h x hx⟩
 | some x => exact Or.inr ⟨x, rfl, List.mem_of_find?_eq_some h, by simpa using List.find?_some h⟩
def heldB (b : Bk) (c : ByteArray) : Int := ((findN nameL b.2.1 c).map (·.2)).getD 0
def zeroLo : Lo := (⟨#[]⟩, ⟨#[]⟩, 0, 0)
def lotAt (b : Bk) (c : ByteArray) : Lo := ((findN nameL b.2.1 c).map (·.1)).getD zeroLo
def isLot (b : Bk) (c : ByteArray) : Bool := (findN nameL b.2.1 c).isSome
theorem insC_perm (f : α → ByteArray) (m : List α) (x : α) : (insC f m x).Perm (x :: m) := by
 unfold insC
 refine List.perm_middle.trans ?_
 rw [List.take_append_drop]
end Go.Proofs.YtefkchmahcjleaaGreatDoor
namespace Go.Proofs.YtefkchmahcjleaaGreatDoor
open Go.RowKit Go.Lib Go.Sort
theorem eqP9b_run (x y : Pl) (w : World) : (Op.equalIn 9999 42 (.agg #[.string x.1, .int .i64 x.2.1, .int .i64 x.2.2]) (.agg #[.string y.1, .int .i64 y.2.1, .int .i64 y.2.2])).run Tryz.prog w = .ok (decide (x = y)) w := by
 obtain ⟨a, r, b⟩ := x
 obtain ⟨a', r', b'⟩ := y
 have u3 := Tryz.underlying3
 have a3 := Tryz.isAgg3
 have z3 := Tryz.sizeOf3
 have u9 := Tryz.underlying9
 have a9 := Tryz.isAgg9
 have z9 := Tryz.sizeOf9
 have hS : Tryz.prog.underlying 42 = some (.struct (Tryz.prog.fieldsOf 42)) := by kernel_rfl
 have hp : Tryz.prog.stoodInHeld 42 = false := by kernel_rfl
 rw [show (9999 : Nat) = 9998 + 1 from rfl, run_equalIn_agg w 9998 42 _ _ hS hp]
 simp only [Program.fieldsOf, Tryz.underlying42]
 have e3 := same_eq a a'
 go_simp
 by_cases h1 : a = a' <;> by_cases h2 : r = r' <;> by_cases h3 : b = b' <;> simp [h1, h2, h3]
def sameN (x y : Ln) : Bool := decide (x.1 = y.1) && (decide (x.2.1 = y.2.1) && decide (x.2.2 = y.2.2))
theorem sameN_iff (x y : Ln) : sameN x y = true ↔ x = y := by
 obtain ⟨x1, x2, x3⟩ := x
 obtain ⟨y1, y2, y3⟩ := y
 unfold sameN
 simp
theorem eqNb_run (x y : Ln) (w : World) : (Op.equalIn 10000 97 (agN x) (agN y)).run Tryz.prog w = .ok (sameN x y) w := by
 have hP := eqP9b_run x.1 y.1
 have HE : Hid (sameN x y = (decide (x.1 = y.1) && (decide (x.2.1 = y.2.1) && decide (x.2.2 = y.2.2)))) := rfl
 have e3 := same_eq x.2.1 y.2.1
 generalize sameN x y = D at *
 generalize decide (x.1 = y.1) = D1 at *
 generalize decide (x.2.1 = y.2.1) = D2 at *
 have h6 : (x.2.2 == y.2.2) = decide (x.2.2 = y.2.2) := rfl
 generalize hD6 : decide (x.2.2 = y.2.2) = D6 at *
 clear hD6
 obtain ⟨⟨a, r, b⟩, c, n⟩ := x
 obtain ⟨⟨a', r', b'⟩, c', n'⟩ := y
 unfold agN
 simp only at hP e3 h6 ⊢
 have u3 := Tryz.underlying3
 have a3 := Tryz.isAgg3
 have z3 := Tryz.sizeOf3
 have u9 := Tryz.underlying9
 have a9 := Tryz.isAgg9
 have z9 := Tryz.sizeOf9
 have a41 := Tryz.isAgg42
 have z41 := Tryz.sizeOf42
 have hS : Tryz.prog.underlying 97 = some (.struct (Tryz.prog.fieldsOf 97)) := by kernel_rfl
 have hp : Tryz.prog.stoodInHeld 97 = false := by kernel_rfl
 rw [show (10000 : Nat) = 9999 + 1 from rfl, run_equalIn_agg w 9999 97 _ _ hS hp]
 simp only [Program.fieldsOf, Tryz.underlying97]
 rw [HE.out]
 clear HE
 cases D1 <;> cases D2 <;> cases D6 <;> go_simp
theorem Tryz.guardNb : Tryz.prog.eqGuardType Tryz.prog.depth 97 = false := by kernel_rfl
theorem equalN_any (w : World) (g1 g2 c1 c2 : Nat) (m1 m2 : List Ln) (h1 : RowN w g1 m1) (h2 : RowN w g2 m2) (s1 : m1.length ≤ 1000) (s2 : m2.length ≤ 1000) :
  Calls Tryz.prog 42 #[.slice (some ⟨g1, 0, none⟩) m1.length c1, .slice (some ⟨g2, 0, none⟩) m2.length c2] w fun e w' => ∃ r, e = .returned (.bool r) ∧ (r = true ↔ m1 = m2) ∧ Below w.heap.size w w' := by
 have H1 : Hid (RowN w g1 m1) := h1
 have H2 : Hid (RowN w g2 m2) := h2
 obtain ⟨l1, hl1⟩ : ∃ l1, m1.length = l1 := ⟨_, rfl⟩
 obtain ⟨l2, hl2⟩ : ∃ l2, m2.length = l2 := ⟨_, rfl⟩
 have HL1 : Hid (m1.length = l1) := hl1
 have HL2 : Hid (m2.length = l2) := hl2
 rw [hl1] at s1 ⊢
 rw [hl2] at s2 ⊢
 clear h1 h2 hl1 hl2
 go_enter Tryz.func42, Tryz.ntmps42
 by_cases hll : l1 = l2
 ·subst hll
  go_wp2
  go_loopw [13] (fun i wr => ∃ k : Nat, k ≤ l1 ∧ i = .int .i64 k ∧ m1.take k = m2.take k ∧ Below w.heap.size w wr) (fun i _ => l1 - (RowKit.intOf i).toNat)
  case atStart => exact ⟨0, Nat.zero_le _, rfl, rfl, Below.refl _ _⟩
  case round =>
   obtain ⟨k, hk, rfl, htk, hb⟩ := hrel
   have HT : Hid (m1.take k = m2.take k) := htk
   have HB : Hid (Below w.heap.size w wr) := hb
   clear htk
   by_cases hlt : k < l1
   ·obtain ⟨x, hx⟩ : ∃ x, m1[k]? = some x := ⟨_, List.getElem?_eq_getElem (by rw [HL1.out]; exact hlt)⟩
    obtain ⟨y, hy⟩ : ∃ y, m2[k]? = some y := ⟨_, List.getElem?_eq_getElem (by rw [HL2.out]; exact hlt)⟩
    obtain ⟨c0, c1, c2, c3, c4⟩ := H1.out.below hb k x hx
    obtain ⟨d0, d1, d2, d3, d4⟩ := H2.out.below hb k y hy
    have hE := fun W => eqNb_run x y W
    have hG := Tryz.guardNb
    have HX : Hid (m1[k]? = some x) := hx
    have HY : Hid (m2[k]? = some y) := hy
    have HI : Hid (sameN x y = true ↔ x = y) := sameN_iff x y
    clear hx hy hb
    have f0 : (0 : Int) ≤ (k : Int) := by omega
    have f1 : (k : Int) < (l1 : Int) := by omega
    cases hD : sameN x y with
    | true =>
     rw [hD] at hE
     have he : x = y := HI.out.1 hD
     have HT' : Hid (m1.take (k + 1) = m2.take (k + 1)) := by
      show _ = _
      rw [List.take_add_one, List.take_add_one, HT.out, HX.out, HY.out, he]
     clear hD HX HY HI HT he
     obtain ⟨⟨xa, xr, xb⟩, xl, xn⟩ := x
     obtain ⟨⟨ya, yr, yb⟩, yl, yn⟩ := y
     unfold agN at hE
     simp only at c0 c1 c2 c3 c4 d0 d1 d2 d3 d4 hE
     go_wp2_with fail
     go_quiet (fail)
     go_wp2
     go_roundw
     case rel => exact ⟨k + 1, by omega, by go_num, HT'.out, below_drewN HB.out _⟩
     case measure => simp [RowKit.intOf]; omega
    | false =>
     rw [hD] at hE
     have he : Hid (m1 ≠ m2) := fun e => by
      have h9 : x = y := by have := HX.out; rw [e, HY.out] at this; exact (Option.some.inj this).symm
      rw [(HI.out.2 h9)] at hD
      cases hD
     clear hD HX HY HI HT
     obtain ⟨⟨xa, xr, xb⟩, xl, xn⟩ := x
     obtain ⟨⟨ya, yr, yb⟩, yl, yn⟩ := y
     unfold agN at hE
     simp only at c0 c1 c2 c3 c4 d0 d1 d2 d3 d4 hE
     go_wp2_with fail
     go_quiet (fail)
     go_wp2
     go_ret
     exact ⟨false, rfl, ⟨fun e9 => (by cases e9), fun e9 => absurd e9 he.out⟩, below_drewN HB.out _⟩
   ·have hkn : k = l1 := by omega
    subst hkn
    go_wp2
    go_ret
    refine ⟨true, rfl, ⟨fun _ => ?_, fun _ => rfl⟩, hb⟩
    have := HT.out
    rw [List.take_of_length_le (Nat.le_of_eq HL1.out), List.take_of_length_le (Nat.le_of_eq HL2.out)] at this
    exact this
 ·have hll' : (l1 : Int) ≠ (l2 : Int) := by omega
  have HN : Hid (m1 ≠ m2) := fun e => hll (by rw [← HL1.out, ← HL2.out, e])
  go_wp2
  go_ret
  exact ⟨false, rfl, ⟨fun e9 => (by cases e9), fun e9 => absurd e9 HN.out⟩, Below.refl _ _⟩
def RowV (w : World) (v : Value) (m : List Ln) : Prop := (m = [] ∧ v = .slice none 0 0) ∨ ∃ g c, v = .slice (some ⟨g, 0, none⟩) m.length c ∧ RowN w g m
theorem RowV.below {w w' : World} {v : Value} {m : List Ln} (h : RowV w v m) (hb : Below w.heap.size w w') : RowV w' v m := by
 rcases h with h | ⟨g, c, e, h⟩
 ·exact Or.inl h
 ·exact Or.inr ⟨g, c, e, h.below hb⟩
theorem sumP_take_succ {m : List Ln} {k : Nat} {l : Ln} (h : m[k]? = some l) : sumP (m.take (k + 1)) = sumP (m.take k) + l.2.2 := by
 rw [List.take_add_one, h, sumP_app]
 congr 1
 show sumP [l] = _
 rw [sumP_cons]
 have : sumP [] = 0 := rfl
 omega
theorem sumP_take_bound {m : List Ln} (h : PosP m) (k : Nat) : 0 ≤ sumP (m.take k) ∧ sumP (m.take k) ≤ sumP m := by
 have e : m = m.take k ++ m.drop k := (List.take_append_drop k m).symm
 have h1 : PosP (m.take k) := fun q hq => h q (List.mem_of_mem_take hq)
 have h2 : PosP (m.drop k) := fun q hq => h q (List.mem_of_mem_drop hq)
 have := sumP_nonneg h1
 have := sumP_nonneg h2
 refine ⟨by omega, ?_⟩
 conv => rhs; rw [e, sumP_app]
 omega
theorem piecesP_any (w : World) (v : Value) (m : List Ln) (h : RowV w v m) (hp : PosP m) (hs : sumP m ≤ 1125899906842624) (h1 : m.length ≤ 100000) :
  Calls Tryz.prog 32 #[v] w fun e w' => e = .returned (.int .i64 (sumP m)) ∧ Below w.heap.size w w' := by
 rcases h with ⟨rfl, rfl⟩ | ⟨g, c, rfl, hr⟩
 ·go_enter Tryz.func32, Tryz.ntmps32
  go_wp2
  refine wp_loop_rounds 1 ?_
  rw [rounds_succ]
  go_wp2
  go_ret
  exact ⟨rfl, Below.refl _ _⟩
 ·obtain ⟨ln, hln⟩ : ∃ ln, ln = m.length := ⟨_, rfl⟩
  have HN : Hid (ln = m.length) := hln
  have HR : Hid (RowN w g m) := hr
  have HP : Hid (PosP m) := hp
  rw [← hln] at h1 ⊢
  clear hln hr hp
  go_enter Tryz.func32, Tryz.ntmps32
  go_wp2
  go_loopw [3, 8] (fun s i wr => ∃ k : Nat, k ≤ ln ∧ i = .int .i64 k ∧ s = .int .i64 (sumP (m.take k)) ∧ Below w.heap.size w wr) (fun _ i _ => ln - (RowKit.intOf i).toNat)
  case atStart => exact ⟨0, Nat.zero_le _, rfl, rfl, Below.refl _ _⟩
  case round =>
   obtain ⟨k, hk, rfl, rfl, hwr⟩ := hrel
   by_cases hlt : k < ln
   ·have hkm : k < m.length := by rw [← HN.out]; exact hlt
    obtain ⟨l, hl⟩ : ∃ l, m[k]? = some l := ⟨_, List.getElem?_eq_getElem hkm⟩
    obtain ⟨c0, c1, c2, c3, c4⟩ := HR.out.below hwr k l hl
    have HE : Hid (sumP (m.take (k + 1)) = sumP (m.take k) + l.2.2) := sumP_take_succ hl
    obtain ⟨o1, o2⟩ := sumP_take_bound HP.out k
    have e1 := HE.out
    obtain ⟨o3, o4⟩ := sumP_take_bound HP.out (k + 1)
    rw [e1] at o3 o4
    have q1 := HP.out l (List.mem_of_getElem? hl)
    clear hl hkm e1
    obtain ⟨⟨a, r, b⟩, lc, n⟩ := l
    simp only at c0 c1 c2 c3 c4 o3 o4 q1 HE
    generalize sumP (m.take k) = O at *
    go_wp2
    go_roundw
    case rel => exact ⟨k + 1, by omega, by go_num, by rw [HE.out], hwr.alloc hwr.size _⟩
    case measure => simp [RowKit.intOf]; omega
   ·have hkn : k = ln := by omega
    have e : m.take k = m := List.take_of_length_le (by rw [← HN.out]; omega)
    rw [e]
    go_wp2
    go_ret
    exact ⟨rfl, hwr⟩
end Go.Proofs.YtefkchmahcjleaaGreatDoor
