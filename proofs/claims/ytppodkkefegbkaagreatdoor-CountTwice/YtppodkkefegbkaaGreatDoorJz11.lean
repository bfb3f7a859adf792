/-
  Plain mathematics of entries: kinds, what an entry lacks, its text, what is read of a text; an entry is read as it was written; no program is named here.
-/
import Derived.Test.YtppodkkefegbkaaGreatDoorJz7
import Derived.Test.YtppodkkefegbkaaGreatDoorJz9
import Derived.Test.YtppodkkefegbkaaGreatDoorPRead
import Derived.Laws.IdiomRangeMap
import Derived.Lib.Builder
import Derived.Lib.SmallJoins
import Derived.Laws.StructEq
set_option maxRecDepth 100000
set_option maxHeartbeats 16000000
namespace Go.Proofs.YtppodkkefegbkaaGreatDoor
open Go.Lib Go.Sort
abbrev Gd := ByteArray × Int
abbrev En := ByteArray × Gd × Lo × Pl × Pl × Int
def zeroG : Gd := (⟨#[]⟩, 0)
def zeroE : En := (⟨#[]⟩, zeroG, zeroL, zeroP, zeroP, 0)
abbrev kGoods : ByteArray := ⟨#[103, 111, 111, 100, 115]⟩
abbrev kLot : ByteArray := ⟨#[108, 111, 116]⟩
abbrev kIn : ByteArray := ⟨#[105, 110]⟩
abbrev kMore : ByteArray := ⟨#[109, 111, 114, 101]⟩
abbrev kOut : ByteArray := ⟨#[111, 117, 116]⟩
abbrev kLess : ByteArray := ⟨#[108, 101, 115, 115]⟩
abbrev kMove : ByteArray := ⟨#[109, 111, 118, 101]⟩
abbrev kHold : ByteArray := ⟨#[104, 111, 108, 100]⟩
abbrev kFree : ByteArray := ⟨#[102, 114, 101, 101]⟩
inductive Kd where
  | goods | lot | tow | frm | move | hold | other
def kd (k : ByteArray) : Kd :=
  if k = kGoods then .goods else if k = kLot then .lot else if k = kIn ∨ k = kMore then .tow else if k = kOut ∨ k = kLess then .frm else if k = kMove then .move else if k = kHold ∨ k = kFree then .hold else .other
structure NoKind (k : ByteArray) : Prop where
  goods : k ≠ kGoods
  lot : k ≠ kLot
  in_ : k ≠ kIn
  more : k ≠ kMore
  out : k ≠ kOut
  less : k ≠ kLess
  move : k ≠ kMove
  hold : k ≠ kHold
  free : k ≠ kFree
theorem kind_cases (k : ByteArray) : k = kGoods ∨ k = kLot ∨ (k = kIn ∨ k = kMore) ∨ (k = kOut ∨ k = kLess) ∨ k = kMove ∨ (k = kHold ∨ k = kFree) ∨ NoKind k := by
  by_cases h1 : k = kGoods
  · exact Or.inl h1
  by_cases h2 : k = kLot
  · exact Or.inr (Or.inl h2)
  by_cases h3 : k = kIn
  · exact Or.inr (Or.inr (Or.inl (Or.inl h3)))
  by_cases h4 : k = kMore
  · exact Or.inr (Or.inr (Or.inl (Or.inr h4)))
  by_cases h5 : k = kOut
  · exact Or.inr (Or.inr (Or.inr (Or.inl (Or.inl h5))))
  by_cases h6 : k = kLess
  · exact Or.inr (Or.inr (Or.inr (Or.inl (Or.inr h6))))
  by_cases h7 : k = kMove
  · exact Or.inr (Or.inr (Or.inr (Or.inr (Or.inl h7))))
  by_cases h8 : k = kHold
  · exact Or.inr (Or.inr (Or.inr (Or.inr (Or.inr (Or.inl (Or.inl h8))))))
  by_cases h9 : k = kFree
  · exact Or.inr (Or.inr (Or.inr (Or.inr (Or.inr (Or.inl (Or.inr h9))))))
  · exact Or.inr (Or.inr (Or.inr (Or.inr (Or.inr (Or.inr ⟨h1, h2, h3, h4, h5, h6, h7, h8, h9⟩)))))
theorem kd_goods : kd kGoods = .goods := rfl
theorem kd_lot : kd kLot = .lot := rfl
theorem kd_in : kd kIn = .tow := rfl
theorem kd_more : kd kMore = .tow := rfl
theorem kd_out : kd kOut = .frm := rfl
theorem kd_less : kd kLess = .frm := rfl
theorem kd_move : kd kMove = .move := rfl
theorem kd_hold : kd kHold = .hold := rfl
theorem kd_free : kd kFree = .hold := rfl
theorem NoKind.kd {k : ByteArray} (h : NoKind k) : kd k = .other := by
  unfold Go.Proofs.YtppodkkefegbkaaGreatDoor.kd
  rw [if_neg h.goods, if_neg h.lot, if_neg (fun e => e.elim h.in_ h.more), if_neg (fun e => e.elim h.out h.less), if_neg h.move, if_neg (fun e => e.elim h.hold h.free)]
def isKd (k : ByteArray) : Bool :=
  match kd k with
  | .other => false
  | _ => true
def kFrom : Kd → Bool
  | .frm => true
  | .move => true
  | _ => false
def kTo : Kd → Bool
  | .tow => true
  | .move => true
  | _ => false
def gdErr (g : Gd) : Nat := if isName g.1.data.toList then (if pw g.2 then 0 else 2) else 5
theorem gdErr_le (g : Gd) : gdErr g ≤ 12 := by unfold gdErr; repeat' split
                                               all_goals omega
def fromErr (c : Kd) (p : Pl) : Nat := if kFrom c then placeErr p else 0
def toErr (c : Kd) (p : Pl) : Nat := if kTo c then placeErr p else 0
def decMv : (c : Kd) → (p q : Pl) → Decidable (c = .move ∧ p = q)
  | .move, p, q => if h : p = q then .isTrue ⟨rfl, h⟩ else .isFalse fun e => h e.2
  | .goods, _, _ => .isFalse fun e => nomatch e.1
  | .lot, _, _ => .isFalse fun e => nomatch e.1
  | .tow, _, _ => .isFalse fun e => nomatch e.1
  | .frm, _, _ => .isFalse fun e => nomatch e.1
  | .hold, _, _ => .isFalse fun e => nomatch e.1
  | .other, _, _ => .isFalse fun e => nomatch e.1
def numErr (c : Kd) (p q : Pl) (n : Int) : Nat := if numW n then @ite Nat (c = .move ∧ p = q) (decMv c p q) 3 0 else 2
def pieceErr (c : Kd) (e : En) : Nat :=
  if isName e.2.2.1.1.data.toList then
    (if fromErr c e.2.2.2.1 = 0 then (if toErr c e.2.2.2.2.1 = 0 then numErr c e.2.2.2.1 e.2.2.2.2.1 e.2.2.2.2.2 else toErr c e.2.2.2.2.1) else fromErr c e.2.2.2.1)
  else 5
def ownErr (e : En) : Nat :=
  match kd e.1 with
  | .goods => gdErr e.2.1
  | .lot => lotErr e.2.2.1
  | .other => 4
  | c => pieceErr c e
def othersC (c : Kd) (e : En) : En :=
  match c with
  | .goods => (⟨#[]⟩, zeroG, e.2.2.1, e.2.2.2.1, e.2.2.2.2.1, e.2.2.2.2.2)
  | .lot => (⟨#[]⟩, e.2.1, zeroL, e.2.2.2.1, e.2.2.2.2.1, e.2.2.2.2.2)
  | c => (⟨#[]⟩, e.2.1, (⟨#[]⟩, e.2.2.1.2), (if kFrom c then zeroP else e.2.2.2.1), (if kTo c then zeroP else e.2.2.2.2.1), 0)
def othersE (e : En) : En := othersC (kd e.1) e
def sameE (x y : En) : Bool := decide (x.1 = y.1) && (decide (x.2.1 = y.2.1) && (decide (x.2.2.1 = y.2.2.1) && (decide (x.2.2.2.1 = y.2.2.2.1) && (decide (x.2.2.2.2.1 = y.2.2.2.2.1) && decide (x.2.2.2.2.2 = y.2.2.2.2.2)))))
theorem sameE_iff {x y : En} : sameE x y = true ↔ x = y := by
  unfold sameE
  simp only [decide_eq_true_eq, Bool.and_eq_true]
  constructor
  · rintro ⟨h1, h2, h3, h4, h5, h6⟩
    exact Prod.ext h1 (Prod.ext h2 (Prod.ext h3 (Prod.ext h4 (Prod.ext h5 h6))))
  · rintro rfl; simp
def entErr (e : En) : Nat := if ownErr e = 0 then (if sameE (othersE e) zeroE = true then 0 else 3) else ownErr e
theorem pieceErr_le (c : Kd) (e : En) : pieceErr c e ≤ 12 := by
  unfold pieceErr fromErr toErr numErr
  have h1 := placeErr_le e.2.2.2.1
  have h2 := placeErr_le e.2.2.2.2.1
  repeat' split
  all_goals omega
theorem ownErr_le (e : En) : ownErr e ≤ 12 := by
  unfold ownErr
  have h1 := gdErr_le e.2.1
  have h2 : lotErr e.2.2.1 ≤ 12 := by unfold lotErr; repeat' split
                                      all_goals omega
  split
  · exact h1
  · exact h2
  · omega
  · exact pieceErr_le _ _
theorem entErr_le (e : En) : entErr e ≤ 12 := by
  unfold entErr
  have := ownErr_le e
  repeat' split
  all_goals omega
theorem entErr_own {e : En} (h : entErr e = 0) : ownErr e = 0 ∧ othersE e = zeroE := by
  unfold entErr at h
  by_cases h1 : ownErr e = 0
  · rw [if_pos h1] at h
    by_cases h2 : sameE (othersE e) zeroE = true
    · exact ⟨h1, sameE_iff.1 h2⟩
    · rw [if_neg h2] at h; omega
  · rw [if_neg h1] at h; exact absurd h h1
theorem pieceErr_zero {c : Kd} {e : En} (h : pieceErr c e = 0) : isName e.2.2.1.1.data.toList = true ∧ fromErr c e.2.2.2.1 = 0 ∧ toErr c e.2.2.2.2.1 = 0 ∧ 1 ≤ e.2.2.2.2.2 ∧ e.2.2.2.2.2 ≤ 1099511627776 := by
  unfold pieceErr at h
  by_cases h1 : isName e.2.2.1.1.data.toList = true
  · rw [if_pos h1] at h
    by_cases h2 : fromErr c e.2.2.2.1 = 0
    · rw [if_pos h2] at h
      by_cases h3 : toErr c e.2.2.2.2.1 = 0
      · rw [if_pos h3] at h
        unfold numErr at h
        by_cases h4 : numW e.2.2.2.2.2 = true
        · exact ⟨h1, h2, h3, (numW_iff _).1 h4⟩
        · rw [if_neg h4] at h; omega
      · rw [if_neg h3] at h; exact absurd h h3
    · rw [if_neg h2] at h; exact absurd h h2
  · rw [if_neg h1] at h; omega
end Go.Proofs.YtppodkkefegbkaaGreatDoor
namespace Go.Proofs.YtppodkkefegbkaaGreatDoor
open Go.RowKit Go.Lib Go.Sort
abbrev agE (e : En) : Value := .agg #[.string e.1, .string e.2.1.1, .int .i64 e.2.1.2, .string e.2.2.1.1, .string e.2.2.1.2.1, .int .i64 e.2.2.1.2.2.1, .int .i64 e.2.2.1.2.2.2, .string e.2.2.2.1.1, .int .i64 e.2.2.2.1.2.1, .int .i64 e.2.2.2.1.2.2, .string e.2.2.2.2.1.1, .int .i64 e.2.2.2.2.1.2.1, .int .i64 e.2.2.2.2.1.2.2, .int .i64 e.2.2.2.2.2]
abbrev celE (e : En) : Obj := .cells #[.string e.1, .string e.2.1.1, .int .i64 e.2.1.2, .string e.2.2.1.1, .string e.2.2.1.2.1, .int .i64 e.2.2.1.2.2.1, .int .i64 e.2.2.1.2.2.2, .string e.2.2.2.1.1, .int .i64 e.2.2.2.1.2.1, .int .i64 e.2.2.2.1.2.2, .string e.2.2.2.2.1.1, .int .i64 e.2.2.2.2.1.2.1, .int .i64 e.2.2.2.2.1.2.2, .int .i64 e.2.2.2.2.2] 43
structure EntAt (w : World) (q : Nat) (e : En) : Prop where
  c0 : w.cell? ⟨q, 0, none⟩ = some (.string e.1)
  c1 : w.cell? ⟨q, 1, none⟩ = some (.string e.2.1.1)
  c2 : w.cell? ⟨q, 2, none⟩ = some (.int .i64 e.2.1.2)
  c3 : w.cell? ⟨q, 3, none⟩ = some (.string e.2.2.1.1)
  c4 : w.cell? ⟨q, 4, none⟩ = some (.string e.2.2.1.2.1)
  c5 : w.cell? ⟨q, 5, none⟩ = some (.int .i64 e.2.2.1.2.2.1)
  c6 : w.cell? ⟨q, 6, none⟩ = some (.int .i64 e.2.2.1.2.2.2)
  c7 : w.cell? ⟨q, 7, none⟩ = some (.string e.2.2.2.1.1)
  c8 : w.cell? ⟨q, 8, none⟩ = some (.int .i64 e.2.2.2.1.2.1)
  c9 : w.cell? ⟨q, 9, none⟩ = some (.int .i64 e.2.2.2.1.2.2)
  c10 : w.cell? ⟨q, 10, none⟩ = some (.string e.2.2.2.2.1.1)
  c11 : w.cell? ⟨q, 11, none⟩ = some (.int .i64 e.2.2.2.2.1.2.1)
  c12 : w.cell? ⟨q, 12, none⟩ = some (.int .i64 e.2.2.2.2.1.2.2)
  c13 : w.cell? ⟨q, 13, none⟩ = some (.int .i64 e.2.2.2.2.2)
theorem EntAt.of_block {w w' : World} {q : Nat} {e : En} (h : EntAt w q e) (hb : w'.heap[q]? = w.heap[q]?) : EntAt w' q e where
  c0 := (World.cell?_of_block (a := ⟨q, 0, none⟩) hb).trans h.c0
  c1 := (World.cell?_of_block (a := ⟨q, 1, none⟩) hb).trans h.c1
  c2 := (World.cell?_of_block (a := ⟨q, 2, none⟩) hb).trans h.c2
  c3 := (World.cell?_of_block (a := ⟨q, 3, none⟩) hb).trans h.c3
  c4 := (World.cell?_of_block (a := ⟨q, 4, none⟩) hb).trans h.c4
  c5 := (World.cell?_of_block (a := ⟨q, 5, none⟩) hb).trans h.c5
  c6 := (World.cell?_of_block (a := ⟨q, 6, none⟩) hb).trans h.c6
  c7 := (World.cell?_of_block (a := ⟨q, 7, none⟩) hb).trans h.c7
  c8 := (World.cell?_of_block (a := ⟨q, 8, none⟩) hb).trans h.c8
  c9 := (World.cell?_of_block (a := ⟨q, 9, none⟩) hb).trans h.c9
  c10 := (World.cell?_of_block (a := ⟨q, 10, none⟩) hb).trans h.c10
  c11 := (World.cell?_of_block (a := ⟨q, 11, none⟩) hb).trans h.c11
  c12 := (World.cell?_of_block (a := ⟨q, 12, none⟩) hb).trans h.c12
  c13 := (World.cell?_of_block (a := ⟨q, 13, none⟩) hb).trans h.c13
theorem EntAt.lt {w : World} {q : Nat} {e : En} (h : EntAt w q e) : q < w.heap.size := cell_lt h.c0
theorem EntAt.below {w w' : World} {q : Nat} {e : En} (h : EntAt w q e) (hb : Below w.heap.size w w') : EntAt w' q e := h.of_block (hb.block q h.lt)
def BlkE (w : World) (q : Nat) (e : En) : Prop := w.heap[q]? = some (.cells #[.string e.1, .string e.2.1.1, .int .i64 e.2.1.2, .string e.2.2.1.1, .string e.2.2.1.2.1, .int .i64 e.2.2.1.2.2.1, .int .i64 e.2.2.1.2.2.2, .string e.2.2.2.1.1, .int .i64 e.2.2.2.1.2.1, .int .i64 e.2.2.2.1.2.2, .string e.2.2.2.2.1.1, .int .i64 e.2.2.2.2.1.2.1, .int .i64 e.2.2.2.2.1.2.2, .int .i64 e.2.2.2.2.2] 43 (0, 0))
theorem BlkE.at {w : World} {q : Nat} {e : En} (h : BlkE w q e) : EntAt w q e where
  c0 := by rw [cell_of_heap h]; rfl
  c1 := by rw [cell_of_heap h]; rfl
  c2 := by rw [cell_of_heap h]; rfl
  c3 := by rw [cell_of_heap h]; rfl
  c4 := by rw [cell_of_heap h]; rfl
  c5 := by rw [cell_of_heap h]; rfl
  c6 := by rw [cell_of_heap h]; rfl
  c7 := by rw [cell_of_heap h]; rfl
  c8 := by rw [cell_of_heap h]; rfl
  c9 := by rw [cell_of_heap h]; rfl
  c10 := by rw [cell_of_heap h]; rfl
  c11 := by rw [cell_of_heap h]; rfl
  c12 := by rw [cell_of_heap h]; rfl
  c13 := by rw [cell_of_heap h]; rfl
theorem BlkE.frozen {w : World} {q : Nat} {e : En} (h : BlkE w q e) (o : Nat) : w.frozen? ⟨q, o, none⟩ = false := frozen_of_heap h o
theorem BlkE.lt {w : World} {q : Nat} {e : En} (h : BlkE w q e) : q < w.heap.size := h.at.lt
theorem BlkE.below {w w' : World} {q : Nat} {e : En} (h : BlkE w q e) (hb : Below w.heap.size w w') : BlkE w' q e := (hb.block q h.lt).trans h
theorem BlkE.new (w : World) (e : En) : BlkE (w.alloc (celE e)) w.heap.size e := heap_alloc_new w _
abbrev setE (w : World) (q : Nat) (e : En) : World := (((((((((((((w.setCell ⟨q, 0, none⟩ (.string e.1)).setCell ⟨q, 1, none⟩ (.string e.2.1.1)).setCell ⟨q, 2, none⟩ (.int .i64 e.2.1.2)).setCell ⟨q, 3, none⟩ (.string e.2.2.1.1)).setCell ⟨q, 4, none⟩ (.string e.2.2.1.2.1)).setCell ⟨q, 5, none⟩ (.int .i64 e.2.2.1.2.2.1)).setCell ⟨q, 6, none⟩ (.int .i64 e.2.2.1.2.2.2)).setCell ⟨q, 7, none⟩ (.string e.2.2.2.1.1)).setCell ⟨q, 8, none⟩ (.int .i64 e.2.2.2.1.2.1)).setCell ⟨q, 9, none⟩ (.int .i64 e.2.2.2.1.2.2)).setCell ⟨q, 10, none⟩ (.string e.2.2.2.2.1.1)).setCell ⟨q, 11, none⟩ (.int .i64 e.2.2.2.2.1.2.1)).setCell ⟨q, 12, none⟩ (.int .i64 e.2.2.2.2.1.2.2)).setCell ⟨q, 13, none⟩ (.int .i64 e.2.2.2.2.2)
theorem set_cell {w : World} {q : Nat} {cs cs' : Array Value} {T : TypeId} (h : w.heap[q]? = some (.cells cs T (0, 0))) (i : Nat) (v : Value) (e : cs.setIfInBounds i v = cs') : (w.setCell ⟨q, i, none⟩ v).heap[q]? = some (.cells cs' T (0, 0)) := by
  rw [← e]; exact Joins.block_setCell h v
theorem BlkE.setE {w : World} {q : Nat} {a : En} (h : BlkE w q a) (e : En) : BlkE (setE w q e) q e := by
  have h1 := set_cell (cs' := #[.string e.1, .string a.2.1.1, .int .i64 a.2.1.2, .string a.2.2.1.1, .string a.2.2.1.2.1, .int .i64 a.2.2.1.2.2.1, .int .i64 a.2.2.1.2.2.2, .string a.2.2.2.1.1, .int .i64 a.2.2.2.1.2.1, .int .i64 a.2.2.2.1.2.2, .string a.2.2.2.2.1.1, .int .i64 a.2.2.2.2.1.2.1, .int .i64 a.2.2.2.2.1.2.2, .int .i64 a.2.2.2.2.2]) h 0 (.string e.1) rfl
  have h2 := set_cell (cs' := #[.string e.1, .string e.2.1.1, .int .i64 a.2.1.2, .string a.2.2.1.1, .string a.2.2.1.2.1, .int .i64 a.2.2.1.2.2.1, .int .i64 a.2.2.1.2.2.2, .string a.2.2.2.1.1, .int .i64 a.2.2.2.1.2.1, .int .i64 a.2.2.2.1.2.2, .string a.2.2.2.2.1.1, .int .i64 a.2.2.2.2.1.2.1, .int .i64 a.2.2.2.2.1.2.2, .int .i64 a.2.2.2.2.2]) h1 1 (.string e.2.1.1) rfl
  have h3 := set_cell (cs' := #[.string e.1, .string e.2.1.1, .int .i64 e.2.1.2, .string a.2.2.1.1, .string a.2.2.1.2.1, .int .i64 a.2.2.1.2.2.1, .int .i64 a.2.2.1.2.2.2, .string a.2.2.2.1.1, .int .i64 a.2.2.2.1.2.1, .int .i64 a.2.2.2.1.2.2, .string a.2.2.2.2.1.1, .int .i64 a.2.2.2.2.1.2.1, .int .i64 a.2.2.2.2.1.2.2, .int .i64 a.2.2.2.2.2]) h2 2 (.int .i64 e.2.1.2) rfl
  have h4 := set_cell (cs' := #[.string e.1, .string e.2.1.1, .int .i64 e.2.1.2, .string e.2.2.1.1, .string a.2.2.1.2.1, .int .i64 a.2.2.1.2.2.1, .int .i64 a.2.2.1.2.2.2, .string a.2.2.2.1.1, .int .i64 a.2.2.2.1.2.1, .int .i64 a.2.2.2.1.2.2, .string a.2.2.2.2.1.1, .int .i64 a.2.2.2.2.1.2.1, .int .i64 a.2.2.2.2.1.2.2, .int .i64 a.2.2.2.2.2]) h3 3 (.string e.2.2.1.1) rfl
  have h5 := set_cell (cs' := #[.string e.1, .string e.2.1.1, .int .i64 e.2.1.2, .string e.2.2.1.1, .string e.2.2.1.2.1, .int .i64 a.2.2.1.2.2.1, .int .i64 a.2.2.1.2.2.2, .string a.2.2.2.1.1, .int .i64 a.2.2.2.1.2.1, .int .i64 a.2.2.2.1.2.2, .string a.2.2.2.2.1.1, .int .i64 a.2.2.2.2.1.2.1, .int .i64 a.2.2.2.2.1.2.2, .int .i64 a.2.2.2.2.2]) h4 4 (.string e.2.2.1.2.1) rfl
  have h6 := set_cell (cs' := #[.string e.1, .string e.2.1.1, .int .i64 e.2.1.2, .string e.2.2.1.1, .string e.2.2.1.2.1, .int .i64 e.2.2.1.2.2.1, .int .i64 a.2.2.1.2.2.2, .string a.2.2.2.1.1, .int .i64 a.2.2.2.1.2.1, .int .i64 a.2.2.2.1.2.2, .string a.2.2.2.2.1.1, .int .i64 a.2.2.2.2.1.2.1, .int .i64 a.2.2.2.2.1.2.2, .int .i64 a.2.2.2.2.2]) h5 5 (.int .i64 e.2.2.1.2.2.1) rfl
  have h7 := set_cell (cs' := #[.string e.1, .string e.2.1.1, .int .i64 e.2.1.2, .string e.2.2.1.1, .string e.2.2.1.2.1, .int .i64 e.2.2.1.2.2.1, .int .i64 e.2.2.1.2.2.2, .string a.2.2.2.1.1, .int .i64 a.2.2.2.1.2.1, .int .i64 a.2.2.2.1.2.2, .string a.2.2.2.2.1.1, .int .i64 a.2.2.2.2.1.2.1, .int .i64 a.2.2.2.2.1.2.2, .int .i64 a.2.2.2.2.2]) h6 6 (.int .i64 e.2.2.1.2.2.2) rfl
  have h8 := set_cell (cs' := #[.string e.1, .string e.2.1.1, .int .i64 e.2.1.2, .string e.2.2.1.1, .string e.2.2.1.2.1, .int .i64 e.2.2.1.2.2.1, .int .i64 e.2.2.1.2.2.2, .string e.2.2.2.1.1, .int .i64 a.2.2.2.1.2.1, .int .i64 a.2.2.2.1.2.2, .string a.2.2.2.2.1.1, .int .i64 a.2.2.2.2.1.2.1, .int .i64 a.2.2.2.2.1.2.2, .int .i64 a.2.2.2.2.2]) h7 7 (.string e.2.2.2.1.1) rfl
  have h9 := set_cell (cs' := #[.string e.1, .string e.2.1.1, .int .i64 e.2.1.2, .string e.2.2.1.1, .string e.2.2.1.2.1, .int .i64 e.2.2.1.2.2.1, .int .i64 e.2.2.1.2.2.2, .string e.2.2.2.1.1, .int .i64 e.2.2.2.1.2.1, .int .i64 a.2.2.2.1.2.2, .string a.2.2.2.2.1.1, .int .i64 a.2.2.2.2.1.2.1, .int .i64 a.2.2.2.2.1.2.2, .int .i64 a.2.2.2.2.2]) h8 8 (.int .i64 e.2.2.2.1.2.1) rfl
  have h10 := set_cell (cs' := #[.string e.1, .string e.2.1.1, .int .i64 e.2.1.2, .string e.2.2.1.1, .string e.2.2.1.2.1, .int .i64 e.2.2.1.2.2.1, .int .i64 e.2.2.1.2.2.2, .string e.2.2.2.1.1, .int .i64 e.2.2.2.1.2.1, .int .i64 e.2.2.2.1.2.2, .string a.2.2.2.2.1.1, .int .i64 a.2.2.2.2.1.2.1, .int .i64 a.2.2.2.2.1.2.2, .int .i64 a.2.2.2.2.2]) h9 9 (.int .i64 e.2.2.2.1.2.2) rfl
  have h11 := set_cell (cs' := #[.string e.1, .string e.2.1.1, .int .i64 e.2.1.2, .string e.2.2.1.1, .string e.2.2.1.2.1, .int .i64 e.2.2.1.2.2.1, .int .i64 e.2.2.1.2.2.2, .string e.2.2.2.1.1, .int .i64 e.2.2.2.1.2.1, .int .i64 e.2.2.2.1.2.2, .string e.2.2.2.2.1.1, .int .i64 a.2.2.2.2.1.2.1, .int .i64 a.2.2.2.2.1.2.2, .int .i64 a.2.2.2.2.2]) h10 10 (.string e.2.2.2.2.1.1) rfl
  have h12 := set_cell (cs' := #[.string e.1, .string e.2.1.1, .int .i64 e.2.1.2, .string e.2.2.1.1, .string e.2.2.1.2.1, .int .i64 e.2.2.1.2.2.1, .int .i64 e.2.2.1.2.2.2, .string e.2.2.2.1.1, .int .i64 e.2.2.2.1.2.1, .int .i64 e.2.2.2.1.2.2, .string e.2.2.2.2.1.1, .int .i64 e.2.2.2.2.1.2.1, .int .i64 a.2.2.2.2.1.2.2, .int .i64 a.2.2.2.2.2]) h11 11 (.int .i64 e.2.2.2.2.1.2.1) rfl
  have h13 := set_cell (cs' := #[.string e.1, .string e.2.1.1, .int .i64 e.2.1.2, .string e.2.2.1.1, .string e.2.2.1.2.1, .int .i64 e.2.2.1.2.2.1, .int .i64 e.2.2.1.2.2.2, .string e.2.2.2.1.1, .int .i64 e.2.2.2.1.2.1, .int .i64 e.2.2.2.1.2.2, .string e.2.2.2.2.1.1, .int .i64 e.2.2.2.2.1.2.1, .int .i64 e.2.2.2.2.1.2.2, .int .i64 a.2.2.2.2.2]) h12 12 (.int .i64 e.2.2.2.2.1.2.2) rfl
  have h14 := set_cell (cs' := #[.string e.1, .string e.2.1.1, .int .i64 e.2.1.2, .string e.2.2.1.1, .string e.2.2.1.2.1, .int .i64 e.2.2.1.2.2.1, .int .i64 e.2.2.1.2.2.2, .string e.2.2.2.1.1, .int .i64 e.2.2.2.1.2.1, .int .i64 e.2.2.2.1.2.2, .string e.2.2.2.2.1.1, .int .i64 e.2.2.2.2.1.2.1, .int .i64 e.2.2.2.2.1.2.2, .int .i64 e.2.2.2.2.2]) h13 13 (.int .i64 e.2.2.2.2.2) rfl
  exact h14
theorem below_setE {B q : Nat} {w W : World} (hb : Below B w W) (hq : B ≤ q) (e : En) : Below B w (setE W q e) :=
  ((((((((((((((hb.setCell (p := ⟨q, 0, none⟩) hq _).setCell (p := ⟨q, 1, none⟩) hq _).setCell (p := ⟨q, 2, none⟩) hq _).setCell (p := ⟨q, 3, none⟩) hq _).setCell (p := ⟨q, 4, none⟩) hq _).setCell (p := ⟨q, 5, none⟩) hq _).setCell (p := ⟨q, 6, none⟩) hq _).setCell (p := ⟨q, 7, none⟩) hq _).setCell (p := ⟨q, 8, none⟩) hq _).setCell (p := ⟨q, 9, none⟩) hq _).setCell (p := ⟨q, 10, none⟩) hq _).setCell (p := ⟨q, 11, none⟩) hq _).setCell (p := ⟨q, 12, none⟩) hq _).setCell (p := ⟨q, 13, none⟩) hq _)
theorem Tryz.guardE : Tryz.prog.eqGuardType Tryz.prog.depth 43 = false := by kernel_rfl
theorem eqPl9 (x y : Pl) (w : World) : (Op.equalIn 9999 41 (.agg #[.string x.1, .int .i64 x.2.1, .int .i64 x.2.2]) (.agg #[.string y.1, .int .i64 y.2.1, .int .i64 y.2.2])).run Tryz.prog w = .ok (decide (x = y)) w := by
  obtain ⟨a, r, b⟩ := x
  obtain ⟨a', r', b'⟩ := y
  have u3 := Tryz.underlying3
  have a3 := Tryz.isAgg3
  have z3 := Tryz.sizeOf3
  have u9 := Tryz.underlying9
  have a9 := Tryz.isAgg9
  have z9 := Tryz.sizeOf9
  have hS : Tryz.prog.underlying 41 = some (.struct (Tryz.prog.fieldsOf 41)) := by kernel_rfl
  have hp : Tryz.prog.stoodInHeld 41 = false := by kernel_rfl
  rw [show (9999 : Nat) = 9998 + 1 from rfl, run_equalIn_agg w 9998 41 _ _ hS hp]
  simp only [Program.fieldsOf, Tryz.underlying41]
  have e3 := same_eq a a'
  go_simp
  by_cases h1 : a = a' <;> by_cases h2 : r = r' <;> by_cases h3 : b = b' <;> simp [h1, h2, h3]
theorem eqG9 (x y : Gd) (w : World) : (Op.equalIn 9999 37 (.agg #[.string x.1, .int .i64 x.2]) (.agg #[.string y.1, .int .i64 y.2])).run Tryz.prog w = .ok (decide (x = y)) w := by
  obtain ⟨a, r⟩ := x
  obtain ⟨a', r'⟩ := y
  have u3 := Tryz.underlying3
  have a3 := Tryz.isAgg3
  have z3 := Tryz.sizeOf3
  have u9 := Tryz.underlying9
  have a9 := Tryz.isAgg9
  have z9 := Tryz.sizeOf9
  have hS : Tryz.prog.underlying 37 = some (.struct (Tryz.prog.fieldsOf 37)) := by kernel_rfl
  have hp : Tryz.prog.stoodInHeld 37 = false := by kernel_rfl
  rw [show (9999 : Nat) = 9998 + 1 from rfl, run_equalIn_agg w 9998 37 _ _ hS hp]
  simp only [Program.fieldsOf, Tryz.underlying37]
  have e3 := same_eq a a'
  go_simp
  by_cases h1 : a = a' <;> by_cases h2 : r = r' <;> simp [h1, h2]
theorem eqL9 (x y : Lo) (w : World) : (Op.equalIn 9999 39 (.agg #[.string x.1, .string x.2.1, .int .i64 x.2.2.1, .int .i64 x.2.2.2]) (.agg #[.string y.1, .string y.2.1, .int .i64 y.2.2.1, .int .i64 y.2.2.2])).run Tryz.prog w = .ok (decide (x = y)) w := by
  obtain ⟨a, r, b, c⟩ := x
  obtain ⟨a', r', b', c'⟩ := y
  have u3 := Tryz.underlying3
  have a3 := Tryz.isAgg3
  have z3 := Tryz.sizeOf3
  have u9 := Tryz.underlying9
  have a9 := Tryz.isAgg9
  have z9 := Tryz.sizeOf9
  have hS : Tryz.prog.underlying 39 = some (.struct (Tryz.prog.fieldsOf 39)) := by kernel_rfl
  have hp : Tryz.prog.stoodInHeld 39 = false := by kernel_rfl
  rw [show (9999 : Nat) = 9998 + 1 from rfl, run_equalIn_agg w 9998 39 _ _ hS hp]
  simp only [Program.fieldsOf, Tryz.underlying39]
  have e3 := same_eq a a'
  have e4 := same_eq r r'
  go_simp
  by_cases h1 : a = a' <;> by_cases h2 : r = r' <;> by_cases h3 : b = b' <;> by_cases h4 : c = c' <;> simp [h1, h2, h3, h4]
theorem eqE_run (x y : En) (w : World) : (Op.equalIn 10000 43 (agE x) (agE y)).run Tryz.prog w = .ok (sameE x y) w := by
  have hG := eqG9 x.2.1 y.2.1
  have hL := eqL9 x.2.2.1 y.2.2.1
  have hP := eqPl9 x.2.2.2.1 y.2.2.2.1
  have hQ := eqPl9 x.2.2.2.2.1 y.2.2.2.2.1
  have HE : Hid (sameE x y = (decide (x.1 = y.1) && (decide (x.2.1 = y.2.1) && (decide (x.2.2.1 = y.2.2.1) && (decide (x.2.2.2.1 = y.2.2.2.1) && (decide (x.2.2.2.2.1 = y.2.2.2.2.1) && decide (x.2.2.2.2.2 = y.2.2.2.2.2))))))) := rfl
  have e3 := same_eq x.1 y.1
  generalize sameE x y = D at *
  generalize decide (x.1 = y.1) = D1 at *
  generalize decide (x.2.1 = y.2.1) = D2 at *
  generalize decide (x.2.2.1 = y.2.2.1) = D3 at *
  generalize decide (x.2.2.2.1 = y.2.2.2.1) = D4 at *
  generalize decide (x.2.2.2.2.1 = y.2.2.2.2.1) = D5 at *
  have h6 : (x.2.2.2.2.2 == y.2.2.2.2.2) = decide (x.2.2.2.2.2 = y.2.2.2.2.2) := rfl
  generalize hD6 : decide (x.2.2.2.2.2 = y.2.2.2.2.2) = D6 at *
  clear hD6
  obtain ⟨k, ⟨gc, gp⟩, ⟨li, lc, lu, lk⟩, ⟨fz, fr, fb⟩, ⟨tz, tr, tb⟩, n⟩ := x
  obtain ⟨k', ⟨gc', gp'⟩, ⟨li', lc', lu', lk'⟩, ⟨fz', fr', fb'⟩, ⟨tz', tr', tb'⟩, n'⟩ := y
  unfold agE
  simp only at hG hL hP hQ e3 h6 ⊢
  have u3 := Tryz.underlying3
  have a3 := Tryz.isAgg3
  have z3 := Tryz.sizeOf3
  have u9 := Tryz.underlying9
  have a9 := Tryz.isAgg9
  have z9 := Tryz.sizeOf9
  have a41 := Tryz.isAgg41
  have z41 := Tryz.sizeOf41
  have a55 := Tryz.isAgg37
  have z55 := Tryz.sizeOf37
  have a57 := Tryz.isAgg39
  have z57 := Tryz.sizeOf39
  have hS : Tryz.prog.underlying 43 = some (.struct (Tryz.prog.fieldsOf 43)) := by kernel_rfl
  have hp : Tryz.prog.stoodInHeld 43 = false := by kernel_rfl
  rw [show (10000 : Nat) = 9999 + 1 from rfl, run_equalIn_agg w 9999 43 _ _ hS hp]
  simp only [Program.fieldsOf, Tryz.underlying43]
  rw [HE.out]
  clear HE
  cases D1 <;> cases D2 <;> cases D3 <;> cases D4 <;> cases D5 <;> cases D6 <;> go_simp
end Go.Proofs.YtppodkkefegbkaaGreatDoor
