/-
  Layers in memory: a block of their own and a chain of blocks; what they keep when other blocks are turned.
-/
import Derived.Test.YtefkchmahcjleaaDoorCoM
import Derived.Test.YtefkchmahcjleaaDoorOff
import Derived.Test.YtefkchmahcjleaaDoorItoa
import Derived.Lib.SmallJoins
namespace Go.Proofs.YtefkchmahcjleaaDoor
open Go.RowKit Go.Lib

abbrev ptrK (k : Nat) : Value := .pointer (some ⟨k, 0, none⟩)
abbrev nilP : Value := .pointer none
/-- Where a chain begins; what is behind it. -/
def hdY (ks : List Nat) (v : Value) : Value := match ks with
  | [] => v
  | k :: _ => ptrK k
def lastY (ks : List Nat) : Value := match ks.getLast? with
  | none => nilP
  | some k => ptrK k
theorem hdY_app (ks ks' : List Nat) (v : Value) : hdY (ks ++ ks') v = hdY ks (hdY ks' v) := by cases ks <;> rfl
theorem lastY_nil : lastY [] = nilP := rfl
theorem lastY_snoc (ks : List Nat) (k : Nat) : lastY (ks ++ [k]) = ptrK k := by unfold lastY; rw [List.getLast?_append]; simp
theorem lastY_cons2 (k k' : Nat) (ks : List Nat) : lastY (k :: k' :: ks) = lastY (k' :: ks) := by unfold lastY; rw [List.getLast?_cons_cons]
abbrev celY (x : Ly) (v : Value) : Obj := .cells #[.int .i64 x.1, .int .i64 x.2, v] 50 (0, 0)
def Lnk (w : World) : List Nat → List Ly → Value → Prop
  | [], [], _ => True
  | k :: ks, x :: m, v => w.heap[k]? = some (celY x (hdY ks v)) ∧ Lnk w ks m v
  | _, _, _ => False
theorem Lnk.len {w : World} : ∀ {ks : List Nat} {m : List Ly} {v : Value}, Lnk w ks m v → ks.length = m.length
  | [], [], _, _ => rfl
  | _ :: _, _ :: _, _, h => by rw [List.length_cons, List.length_cons, Lnk.len h.2]
theorem Lnk.of_blocks {w w' : World} : ∀ {ks : List Nat} {m : List Ly} {v : Value}, Lnk w ks m v → (∀ k ∈ ks, w'.heap[k]? = w.heap[k]?) → Lnk w' ks m v
  | [], [], _, _, _ => trivial
  | k :: _, _ :: _, _, h, hk => ⟨(hk k (List.mem_cons_self ..)).trans h.1, Lnk.of_blocks h.2 fun j hj => hk j (List.mem_cons_of_mem _ hj)⟩
theorem Lnk.lt {w : World} : ∀ {ks : List Nat} {m : List Ly} {v : Value}, Lnk w ks m v → ∀ k ∈ ks, k < w.heap.size
  | [], [], _, _, k, hk => by cases hk
  | j :: _, _ :: _, _, h, k, hk => by
    rcases List.mem_cons.1 hk with rfl | hk
    · exact (Array.getElem?_eq_some_iff.1 h.1).1
    · exact Lnk.lt h.2 k hk
theorem Lnk.app {w : World} : ∀ {ks : List Nat} {m : List Ly} {ks' : List Nat} {m' : List Ly} {v : Value}, Lnk w ks m (hdY ks' v) → Lnk w ks' m' v → Lnk w (ks ++ ks') (m ++ m') v
  | [], [], _, _, _, _, h => h
  | k :: ks, x :: m, ks', m', v, h, h' => by
    refine ⟨?_, Lnk.app h.2 h'⟩
    have e : hdY (ks ++ ks') v = hdY ks (hdY ks' v) := hdY_app ks ks' v
    show w.heap[k]? = some (celY x (hdY (ks ++ ks') v))
    rw [e]; exact h.1
theorem Lnk.part {w : World} : ∀ {m : List Ly} {ks : List Nat} {m' : List Ly} {v : Value}, Lnk w ks (m ++ m') v → ∃ k1 k2, ks = k1 ++ k2 ∧ Lnk w k1 m (hdY k2 v) ∧ Lnk w k2 m' v
  | [], ks, _, _, h => ⟨[], ks, rfl, trivial, h⟩
  | x :: m, [], _, _, h => absurd h (by intro h; exact h)
  | x :: m, k :: ks, m', v, h => by
    obtain ⟨k1, k2, rfl, h1, h2⟩ := Lnk.part (m := m) h.2
    exact ⟨k :: k1, k2, rfl, ⟨by rw [← hdY_app]; exact h.1, h1⟩, h2⟩
theorem Lnk.nil {w : World} {ks : List Nat} {v : Value} (h : Lnk w ks [] v) : ks = [] := List.eq_nil_of_length_eq_zero h.len
theorem Lnk.cons {w : World} {ks : List Nat} {x : Ly} {m : List Ly} {v : Value} (h : Lnk w ks (x :: m) v) : ∃ k ks', ks = k :: ks' ∧ w.heap[k]? = some (celY x (hdY ks' v)) ∧ Lnk w ks' m v := by
  cases ks with
  | nil => exact absurd h.len (by simp)
  | cons k ks => exact ⟨k, ks, rfl, h.1, h.2⟩
/-- Layers whose number is told as H. -/
structure LyR (w : World) (B q : Nat) (ks : List Nat) (m : List Ly) (H : Int) : Prop where
  top : w.heap[q]? = some (.cells #[hdY ks nilP, lastY ks, .int .i64 H] 47 (0, 0))
  lnk : Lnk w ks m nilP
  nd : (q :: ks).Nodup
  lo : ∀ k ∈ q :: ks, B ≤ k
theorem LyR.lt {w : World} {B q : Nat} {ks : List Nat} {m : List Ly} {H : Int} (h : LyR w B q ks m H) : ∀ k ∈ q :: ks, k < w.heap.size := by
  intro k hk
  rcases List.mem_cons.1 hk with rfl | hk
  · exact (Array.getElem?_eq_some_iff.1 h.top).1
  · exact h.lnk.lt k hk
theorem LyR.of_blocks {w w' : World} {B q : Nat} {ks : List Nat} {m : List Ly} {H : Int} (h : LyR w B q ks m H) (hk : ∀ k ∈ q :: ks, w'.heap[k]? = w.heap[k]?) : LyR w' B q ks m H where
  top := (hk q (List.mem_cons_self ..)).trans h.top
  lnk := h.lnk.of_blocks fun k hk' => hk k (List.mem_cons_of_mem _ hk')
  nd := h.nd
  lo := h.lo
theorem LyR.below {w w' : World} {B q : Nat} {ks : List Nat} {m : List Ly} {H : Int} (h : LyR w B q ks m H) (hb : Below w.heap.size w w') : LyR w' B q ks m H := h.of_blocks fun k hk => hb.block k (h.lt k hk)
theorem LyR.off {w w' : World} {B q : Nat} {ks : List Nat} {m : List Ly} {H : Int} (h : LyR w B q ks m H) {y : List Nat} (hf : Off y w w') (hy : ∀ k ∈ q :: ks, k ∉ y) : LyR w' B q ks m H := h.of_blocks fun k hk => hf.block k (h.lt k hk) (hy k hk)
/-- Layers. -/
structure LyAt (w : World) (B q : Nat) (ks : List Nat) (m : List Ly) : Prop where
  r : LyR w B q ks m (hasY m)
  ok : LyOk m
theorem LyAt.below {w w' : World} {B q : Nat} {ks : List Nat} {m : List Ly} (h : LyAt w B q ks m) (hb : Below w.heap.size w w') : LyAt w' B q ks m := ⟨h.r.below hb, h.ok⟩
theorem LyAt.off {w w' : World} {B q : Nat} {ks : List Nat} {m : List Ly} (h : LyAt w B q ks m) {y : List Nat} (hf : Off y w w') (hy : ∀ k ∈ q :: ks, k ∉ y) : LyAt w' B q ks m := ⟨h.r.off hf hy, h.ok⟩
theorem cell_blk {w : World} {b : Nat} {c : Array Value} {T : TypeId} (h : w.heap[b]? = some (.cells c T (0, 0))) (i : Nat) : w.cell? ⟨b, i, none⟩ = c[i]? := by rw [cell_of_heap h]
/-- Layers of nothing. -/
theorem LyAt.new (w : World) (B : Nat) (hB : B ≤ w.heap.size) : LyAt (w.alloc (.cells #[nilP, nilP, .int .i64 0] 47)) B w.heap.size [] [] where
  r := ⟨heap_alloc_new w _, trivial, by simp, fun k hk => by rw [List.mem_singleton.1 hk]; exact hB⟩
  ok := LyOk.nil
end Go.Proofs.YtefkchmahcjleaaDoor
