/-
  Acts in a row: what their cells hold. A stock's answers, each over every world that holds what was there: as the laws ask for them.
-/
import Derived.Test.YtiegilnjfadhiabGreatDoorKSix
import Derived.Test.YtiegilnjfadhiabGreatDoorKStocked
import Derived.Test.YtiegilnjfadhiabGreatDoorKMove
namespace Go.Proofs.YtiegilnjfadhiabGreatDoor
open Go.RowKit Go.Lib Go.Sort

/-- An act: its kind, from, to, lot, number. -/
abbrev Ac := ByteArray × Pl × Pl × ByteArray × Int
def encA (x : Ac) : List Value := [.string x.1, .string x.2.1.1, .int .i64 x.2.1.2.1, .int .i64 x.2.1.2.2, .string x.2.2.1.1, .int .i64 x.2.2.1.2.1, .int .i64 x.2.2.1.2.2, .string x.2.2.2.1, .int .i64 x.2.2.2.2]
theorem encA_len (x : Ac) : (encA x).length = 9 := rfl
/-- An act lies at an offset of a block. -/
structure ActAt (w : World) (b o : Nat) (x : Ac) : Prop where
  c0 : w.cell? ⟨b, o, none⟩ = some (.string x.1)
  c1 : w.cell? ⟨b, o + 1, none⟩ = some (.string x.2.1.1)
  c2 : w.cell? ⟨b, o + 1 + 1, none⟩ = some (.int .i64 x.2.1.2.1)
  c3 : w.cell? ⟨b, o + 1 + 2, none⟩ = some (.int .i64 x.2.1.2.2)
  c4 : w.cell? ⟨b, o + 4, none⟩ = some (.string x.2.2.1.1)
  c5 : w.cell? ⟨b, o + 4 + 1, none⟩ = some (.int .i64 x.2.2.1.2.1)
  c6 : w.cell? ⟨b, o + 4 + 2, none⟩ = some (.int .i64 x.2.2.1.2.2)
  c7 : w.cell? ⟨b, o + 7, none⟩ = some (.string x.2.2.2.1)
  c8 : w.cell? ⟨b, o + 8, none⟩ = some (.int .i64 x.2.2.2.2)
theorem ActAt.below {w w' : World} {b o : Nat} {x : Ac} (h : ActAt w b o x) (hb : Below w.heap.size w w') : ActAt w' b o x := by
  have hlt : b < w.heap.size := cell_lt h.c0
  have k := hb.block b hlt
  exact ⟨(World.cell?_of_block (a := ⟨b, o, none⟩) k).trans h.c0, (World.cell?_of_block (a := ⟨b, o + 1, none⟩) k).trans h.c1, (World.cell?_of_block (a := ⟨b, o + 1 + 1, none⟩) k).trans h.c2, (World.cell?_of_block (a := ⟨b, o + 1 + 2, none⟩) k).trans h.c3, (World.cell?_of_block (a := ⟨b, o + 4, none⟩) k).trans h.c4, (World.cell?_of_block (a := ⟨b, o + 4 + 1, none⟩) k).trans h.c5, (World.cell?_of_block (a := ⟨b, o + 4 + 2, none⟩) k).trans h.c6, (World.cell?_of_block (a := ⟨b, o + 7, none⟩) k).trans h.c7, (World.cell?_of_block (a := ⟨b, o + 8, none⟩) k).trans h.c8⟩
/-- What an act that was read keeps. -/
structure WfA (x : Ac) : Prop where
  from_ : KeyOk (x.2.1, x.2.2.2.1)
  to_ : KeyOk (x.2.2.1, x.2.2.2.1)
  num : (Lit.int .i64 x.2.2.2.2).wf = true
def RowA (w : World) (b off : Nat) (d : List Ac) : Prop := ∀ i x, d[i]? = some x → ActAt w b (off + i * 9) x ∧ WfA x
theorem RowA.below {w w' : World} {b off : Nat} {d : List Ac} (h : RowA w b off d) (hb : Below w.heap.size w w') : RowA w' b off d := fun i x hi => ⟨(h i x hi).1.below hb, (h i x hi).2⟩

/-- A stock's text. -/
def txt (m : List Ln) : ByteArray := ⟨(textB m).toArray⟩
/-- Sentinels and the table, all of them. -/
structure Old6 (w : World) (s : Nat → Addr) : Prop where
  six : Six w s
  pow : Pow w
theorem Old6.below {w w' : World} {s : Nat → Addr} (h : Old6 w s) (hb : Below w.heap.size w w') : Old6 w' s := ⟨h.six.below hb, h.pow.below hb⟩
theorem Old6.old {w : World} {s : Nat → Addr} (h : Old6 w s) : Old w s := ⟨h.six.five, h.pow⟩
section
variable {W : World} {s : Nat → Addr} (hO : Old6 W s)
include hO
theorem lawText : ∀ w1 p b m, IsStock w1 p b m → Below W.heap.size W w1 → Calls Tryz.prog 10 #[.pointer (some ⟨p, 0, none⟩)] w1 fun e w' => e = .returned (.string (txt m)) ∧ IsStock w' p b m ∧ Below W.heap.size W w' ∧ Below w1.heap.size w1 w' := fun w1 p b m hi hb =>
  (text_any w1 s p b m hi (hO.six.five.two.below hb) (hO.pow.below hb)).mono fun _ _ ⟨he, hb'⟩ => ⟨he, hi.all hb', hb.trans (hb'.mono hb.size), hb'⟩
omit hO in
theorem lawOf (c : ByteArray) : ∀ w1 p b m, IsStock w1 p b m → Below W.heap.size W w1 → Calls Tryz.prog 22 #[.pointer (some ⟨p, 0, none⟩), .string c] w1 fun e w' => e = .returned (.int .i64 (ofL m c)) ∧ IsStock w' p b m ∧ Below W.heap.size W w' ∧ Below w1.heap.size w1 w' := fun w1 p b m hi hb =>
  (of_any c w1 p b m hi).mono fun _ _ ⟨he, hb'⟩ => ⟨he, hi.all hb', hb.trans (hb'.mono hb.size), hb'⟩
omit hO in
theorem lawAt (x : Pl) (c : ByteArray) (hk : KeyOk (x, c)) : ∀ w1 p b m, IsStock w1 p b m → Below W.heap.size W w1 → Calls Tryz.prog 20 #[.pointer (some ⟨p, 0, none⟩), agP x, .string c] w1 fun e w' => e = .returned (.int .i64 (atL m (x, c))) ∧ IsStock w' p b m ∧ Below W.heap.size W w' ∧ Below w1.heap.size w1 w' := fun w1 p b m hi hb =>
  (at_any x c w1 p b m hi hk).mono fun _ _ ⟨he, hb'⟩ => ⟨he, hi.all hb', hb.trans (hb'.mono hb.size), hb'⟩
theorem lawPut (x : Pl) (c : ByteArray) (n : Int) (hk : KeyOk (x, c)) : ∀ w1 p b m, IsStock w1 p b m → Below W.heap.size W w1 → W.heap.size ≤ b → Calls Tryz.prog 13 #[.pointer (some ⟨p, 0, none⟩), agP x, .string c, .int .i64 n] w1 fun e w' => e = .returned (errP s (putE m x c n)) ∧ IsStock w' p b (putL m x c n) ∧ Below W.heap.size W w' ∧ w1.grownBy w' (some b) := fun w1 p b m hi hb hB =>
  (put_any x c n w1 s p b m hi hk.z hk.c (hO.six.five.below hb)).mono fun _ _ ⟨he, hi', hg⟩ => ⟨he, hi', grown_below hb hB hg, hg⟩
theorem lawMove (x y : Pl) (c : ByteArray) (n : Int) (hk : KeyOk (x, c)) (hz : y.1.size ≤ maxLen) : ∀ w1 p b m, IsStock w1 p b m → Below W.heap.size W w1 → W.heap.size ≤ b → Calls Tryz.prog 17 #[.pointer (some ⟨p, 0, none⟩), agP x, agP y, .string c, .int .i64 n] w1 fun e w' => e = .returned (errP s (moveE m x y c n)) ∧ IsStock w' p b (moveL m x y c n) ∧ Below W.heap.size W w' ∧ w1.grownBy w' (some b) := fun w1 p b m hi hb hB =>
  (move_any x y c n w1 s p b m hi hk hz hk.c (hO.six.five.below hb)).mono fun _ _ ⟨he, hi', hg⟩ => ⟨he, hi', grown_below hb hB hg, hg⟩
end
end Go.Proofs.YtiegilnjfadhiabGreatDoor
