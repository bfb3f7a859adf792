/-
 A strings.Builder in a block of its own: what a write leaves, what String answers (in this translation copyCheck ends without an answer at a builder that was copied: no walk comes there).
-/
import Derived.Test.YtpnmbomjnpheeaaGreatDoorGenB
import Derived.Lib.AppendStr
import Derived.Lib.Builder
import Derived.Lib.SmallJoins
import Derived.OneCell
import Derived.Lib.OwnKind
import Derived.OwnWalk
import Derived.WalkKit
set_option maxRecDepth 100000
set_option maxHeartbeats 16000000
namespace Go.Proofs.YtpnmbomjnpheeaaGreatDoor
open Go.RowKit Go.Lib Go.Shelf
def Bld (B b : Nat) (l : List UInt8) (w : World) : Prop :=
 b < B ∧ ∃ p v, (p = .pointer none ∨ p = .pointer (some ⟨b, 0, none⟩)) ∧ w.heap[b]? = some (.cells #[p, v] 118 (0, 0)) ∧ w.ownsRow B 5 1 v l.length (byteCells l)
structure BelowBut (B b : Nat) (w w' : World) : Prop where
 os : w'.os = w.os
 tape : w'.tape = w.tape
 output : w'.output = w.output
 size : w.heap.size ≤ w'.heap.size
 block : ∀ k, k < B → k ≠ b → w'.heap[k]? = w.heap[k]?
 other : ∀ k o, w.heap[k]? = some o → k ≠ b → (∀ cs fz, o ≠ .cells cs 5 fz) → w'.heap[k]? = some o
theorem BelowBut.refl (B b : Nat) (w : World) : BelowBut B b w w := ⟨rfl, rfl, rfl, Nat.le_refl _, fun _ _ _ => rfl, fun _ _ h _ _ => h⟩
theorem BelowBut.trans {B b : Nat} {w w' w'' : World} (h : BelowBut B b w w') (k : BelowBut B b w' w'') : BelowBut B b w w'' :=
 ⟨k.os.trans h.os, k.tape.trans h.tape, k.output.trans h.output, Nat.le_trans h.size k.size, fun i hi hn => (k.block i hi hn).trans (h.block i hi hn), fun i o hi hn ho => k.other i o (h.other i o hi hn ho) hn ho⟩
theorem BelowBut.below {B b : Nat} {w w' : World} (h : BelowBut B b w w') (hb : b ≤ B) : Below b w w' := ⟨h.os, h.tape, h.output, h.size, fun k hk => h.block k (by omega) (by omega)⟩
theorem BelowBut.setCell (B b i : Nat) (w : World) (v : Value) : BelowBut B b w (w.setCell ⟨b, i, none⟩ v) := by
 have h := (Below.refl b w).setCell (p := ⟨b, i, none⟩) (Nat.le_refl _) v
 exact ⟨h.os, h.tape, h.output, h.size, fun k _ hn => Below.heap_setCell w ⟨b, i, none⟩ v k hn, fun k o ho hn _ => (Below.heap_setCell w ⟨b, i, none⟩ v k hn).trans ho⟩
theorem Tryz.bldX : Builder.Extra Tryz.prog Tryz.laysStr_ren where
 sizeBuilder := by kernel_rfl
 liesBuilder := by kernel_rfl
 t5 := Tryz.underlying5
 a5 := Tryz.isAgg5
 z5 := Tryz.sizeOf5
 v5 := Tryz.zeroValue5
 infoByte := by kernel_rfl
 cellsByte := by kernel_rfl
 sizeByte := by kernel_rfl
 neB5 := by decide
theorem Tryz.bldSize : (Tryz.prog.info? 118).map (·.size) = some 2 := by kernel_rfl
theorem Tryz.bldLies : liesAt Tryz.prog Tryz.prog.depth 118 (2 / Tryz.prog.cellsOf 118) 0 118 1 = true := by kernel_rfl
theorem Tryz.infoByte : (Tryz.prog.info? 5).map (fun i => (i.zero, i.size, i.bytes)) = some (some (.int .u8 0), 1, 1) := by kernel_rfl
theorem bld_lt {B b : Nat} {l : List UInt8} {w : World} (h : Bld B b l w) : b < w.heap.size := by
 obtain ⟨h0, p, v, h1, h2, h3⟩ := h
 exact (Array.getElem?_eq_some_iff.1 h2).1
theorem own_ne {w : World} {B b n : Nat} {v : Value} {xs : List Value} (h : w.ownsRow B 5 1 v n xs) (hb : b < B) : v.ownBlock ≠ some b := fun e => by have := (h.lt b e).1; omega
theorem bld_used (b : Nat) (w : World) (h0 : w.cell? ⟨b, 0, none⟩ = some (.pointer (some ⟨b, 0, none⟩))) :
  Calls Tryz.prog 72 #[.pointer (some ⟨b, 0, none⟩)] w fun e w' => e = .returned (.tuple #[]) ∧ w' = w := by
 obtain ⟨j, hj, _⟩ := Option.map_eq_some_iff.1 Tryz.bldSize
 go_enter Tryz.func72, Tryz.ntmps72
 go_wp2
 rw [run_neq_ptr_same w _ Tryz.underlying115 hj]
 go_wp2
 go_end0
 exact ⟨rfl, rfl⟩
theorem bld_fresh (b : Nat) (w : World) (h0 : w.cell? ⟨b, 0, none⟩ = some (.pointer none)) (hsh : w.shape? b = some (118, 2)) (hfz : w.frozen? ⟨b, 0, none⟩ = false) :
  Calls Tryz.prog 72 #[.pointer (some ⟨b, 0, none⟩)] w fun e w' => e = .returned (.tuple #[]) ∧ w' = w.setCell ⟨b, 0, none⟩ (.pointer (some ⟨b, 0, none⟩)) := by
 obtain ⟨j, hj, hjs⟩ := Option.map_eq_some_iff.1 Tryz.bldSize
 go_enter Tryz.func72, Tryz.ntmps72
 go_wp2
 rw [run_to_unsafe w ⟨b, 0, none⟩ Tryz.underlying115 Tryz.underlying133 hj (by rw [hjs]; decide) hsh (Nat.zero_lt_succ 1)]
 simp only [Result.andThen]
 rw [Oper.upon_value]
 go_wp2
 rw [run_callFunc_extern Tryz.func89 (by kernel_rfl) (by kernel_rfl) (by kernel_rfl) (e := Extern.AbiNoEscape.same) (by kernel_rfl), run_noEscape]
 simp only [Result.andThen]
 rw [Oper.upon_value]
 go_wp2
 rw [run_from_unsafe w ⟨b, 0, none⟩ Tryz.underlying133 Tryz.underlying115 hj hsh Tryz.bldLies]
 simp only [Result.andThen]
 rw [Oper.upon_value]
 go_wp2
 go_end0
 exact ⟨rfl, rfl⟩
theorem bld_check (B b : Nat) (l : List UInt8) (w : World) (h : Bld B b l w) :
  Calls Tryz.prog 72 #[.pointer (some ⟨b, 0, none⟩)] w fun e w' => e = .returned (.tuple #[]) ∧ (∃ v, w'.heap[b]? = some (.cells #[.pointer (some ⟨b, 0, none⟩), v] 118 (0, 0)) ∧ w'.ownsRow B 5 1 v l.length (byteCells l)) ∧ BelowBut B b w w' := by
 obtain ⟨h0, p, v, hp, h2, h3⟩ := h
 rcases hp with rfl | rfl
 ·have hsh : w.shape? b = some (118, 2) := by simp [World.shape?, h2]
  exact (bld_fresh b w (by rw [cell_of_heap h2]; rfl) hsh (frozen_of_heap h2 0)).mono fun e w' ⟨he, hw⟩ => by
   subst hw
   refine ⟨he, ⟨v, ?_, ownsRow_setCell_other h3 (own_ne h3 h0) _⟩, BelowBut.setCell B b 0 w _⟩
   have := Joins.block_setCell (i := 0) h2 (.pointer (some ⟨b, 0, none⟩))
   simpa using this
 ·exact (bld_used b w (by rw [cell_of_heap h2]; rfl)).mono fun e w' ⟨he, hw⟩ => by
   subst hw
   exact ⟨he, ⟨v, h2, h3⟩, BelowBut.refl B b _⟩
theorem size_len_b (s : ByteArray) : s.data.toList.length = s.size := (Lib.size_eq s).symm
theorem byteCells_append (l k : List UInt8) : byteCells (l ++ k) = byteCells l ++ byteCells k := by unfold byteCells; simp
theorem strCells_bytes (s : ByteArray) : strCells s = byteCells s.data.toList := by unfold strCells byteCells; rfl
theorem byteCells_len (l : List UInt8) : (byteCells l).length = l.length := by unfold byteCells; simp
theorem bld_turned {w1 w2 : World} {b : Nat} {p v : Value} {T : TypeId} (hbk : w1.heap[b]? = some (.cells #[p, v] T (0, 0))) (hne : v.ownBlock ≠ some b) (hg : w1.grownBy w2 v.ownBlock) :
  w2.heap[b]? = some (.cells #[p, v] T (0, 0)) ∧ w2.cell? ⟨b, 1, none⟩ = some v ∧ w2.frozen? ⟨b, 1, none⟩ = false := by
 have hlt : b < w1.heap.size := (Array.getElem?_eq_some_iff.1 hbk).1
 have hb2 : w2.heap[b]? = some (.cells #[p, v] T (0, 0)) := (hg.block b hlt (fun e => hne e.symm)).trans hbk
 exact ⟨hb2, by rw [cell_of_heap hb2]; rfl, frozen_of_heap hb2 1⟩
theorem own_slice {w : World} {B e n : Nat} {v : Value} {xs : List Value} (h : w.ownsRow B e 1 v n xs) : ∃ ao k cap, v = .slice ao k cap := by
 rcases h.2 with ⟨hv, _⟩ | ⟨g, cap, cur, hv, _⟩
 ·exact ⟨_, _, _, hv⟩
 ·exact ⟨_, _, _, hv⟩
theorem bld_write (B b : Nat) (l : List UInt8) (s : ByteArray) (w : World) (h : Bld B b l w) (hlen : l.length + s.size ≤ 1000000) (hBw : B ≤ w.heap.size) :
  Calls Tryz.prog 48 #[.pointer (some ⟨b, 0, none⟩), .string s] w fun e w' => e = .returned (.tuple #[.int .i64 s.size, .nilIface]) ∧ Bld B b (l ++ s.data.toList) w' ∧ BelowBut B b w w' := by
 obtain ⟨i0, hi, hz0, hz1, hz2⟩ := info_parts Tryz.infoByte
 have hll : (byteCells l).length + s.size ≤ 1000000 := by rw [byteCells_len]; exact hlen
 have HC : Hid (Calls Tryz.prog 72 _ _ _) := bld_check B b l w h
 have HS : Hid (byteCells (l ++ s.data.toList) = byteCells l ++ strCells s) := by show _ = _; rw [byteCells_append, strCells_bytes]
 have HL : Hid ((byteCells l).length = l.length ∧ (l ++ s.data.toList).length = l.length + s.size) := ⟨byteCells_len l, by rw [List.length_append, size_len_b]⟩
 have h0 := h.1
 clear h hlen
 generalize byteCells l = bs at *
 go_enter Tryz.func48, Tryz.ntmps48
 go_wp2_with (first
  | (go_at_call 72; refine HC.out.mono ?_; rintro e w1 ⟨rfl, ⟨v, hbk, hown⟩, hb1⟩; have hne := own_ne hown h0; have c1 : w1.cell? ⟨b, 1, none⟩ = some v := (by rw [cell_of_heap hbk]; rfl))
  | (at_builtin; refine wpList_append_own_string _ rfl _ _ 116 9 rfl B 5 i0 Tryz.underlying116 Tryz.underlying9 hi hz0 hz1 hz2 _ _ _ rfl hown s rfl (by unfold maxLen; have := HL.out.1; omega) (by have := HL.out.1; omega) (by have := hb1.size; omega) ?_; intro v' w2 hown' hgrow _; obtain ⟨hb2, d1, f1⟩ := bld_turned hbk hne hgrow; obtain ⟨ao, n', cap, rfl⟩ := own_slice hown'))
 go_ret2
 refine ⟨rfl, ⟨h0, _, _, Or.inr rfl, by simpa using Joins.block_setCell (i := 1) hb2 (Value.slice ao n' cap), ?_⟩, ?_⟩
 ·have hn' := own_ne hown' h0
  rw [HS.out, HL.out.2]
  exact ownsRow_setCell_other hown' hn' _
 ·have hlt := fun k (e : v.ownBlock = some k) => (hown.lt k e).1
  exact (hb1.trans ⟨hgrow.os, hgrow.tape, hgrow.output, hgrow.size, fun k hk _ => by
   by_cases hkl : k < w1.heap.size
   ·exact hgrow.block k hkl (fun e => by have := hlt k e.symm; omega)
   ·have := hb1.size; omega, fun k o ho _ hx => (hgrow.block k (Array.getElem?_eq_some_iff.1 ho).1 (fun e => by
    obtain ⟨c, fz, hc⟩ := ownsRow_kind hown k e.symm
    rw [ho] at hc
    cases hc
    exact hx _ _ rfl)).trans ho⟩).trans (BelowBut.setCell B b 1 w2 _)
theorem bld_string (B b : Nat) (l : List UInt8) (w : World) (h : Bld B b l w) :
  Calls Tryz.prog 49 #[.pointer (some ⟨b, 0, none⟩)] w fun e w' => e = .returned (.string ⟨l.toArray⟩) ∧ Below b w w' := by
 have hlt := bld_lt h
 obtain ⟨h0, p, v, hp, h2, h3⟩ := h
 have hb : BuilderAt 118 5 b b p (byteCells l) w := ⟨Nat.le_refl _, v, h2, by rw [byteCells_len]; exact Joins.ownsRow_le h3 (Nat.le_of_lt h0), own_ne h3 h0⟩
 refine Any.Builder_String_any Tryz.laysStr Tryz.bldX b b l w ?_ (Nat.le_of_lt hlt)
 rcases hp with rfl | rfl
 ·exact Or.inl hb
 ·exact Or.inr hb
end Go.Proofs.YtpnmbomjnpheeaaGreatDoor
