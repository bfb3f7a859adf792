/-
  What the library's contracts ask of this program, laid at its numbers: facts of the program alone. A strings.Builder in a block of its own: what a write leaves, what String answers (in this translation copyCheck ends without an answer at a builder that was copied: no walk comes there). What Text answers: the lines of a stock, each as a text; nothing old is turned. The closed fact of the laws on stocks: it answers true in every world that holds the sentinels and strconv's table of powers as the program lays them. Acts in a row: what their cells hold. A stock's answers, each over every world that holds what was there: as the laws ask for them. What the reference's PlaceText answers, over whatever world. What the reference's LineText and Text answer: the lines' texts; nothing old is turned. What AsStock answers of a stock and the reference's stock that have the same lines: 1; nothing old is turned. The law StockReads answers true, whatever the text; over every world that holds the sentinels, errors.errorType and strconv's table of powers as the program lays them; nothing old is turned.
-/
import Derived.Shelf.Strings.Builder1
import Derived.Test.YtcipbkaopnaiiabGreatDoorProg
import Derived.Lib.AppendStr
import Derived.Lib.Builder
import Derived.Lib.SmallJoins
import Derived.OneCell
import Derived.Lib.OwnKind
import Derived.OwnWalk
import Derived.WalkKit
import Derived.Test.YtcipbkaopnaiiabGreatDoorKLinesIn
import Derived.Test.YtcipbkaopnaiiabGreatDoorKRefMath
import Derived.Test.YtcipbkaopnaiiabGreatDoorKTake
import Derived.Test.YtcipbkaopnaiiabGreatDoorKPutIn
import Derived.Test.YtcipbkaopnaiiabGreatDoorKzRead
import Derived.Test.YtcipbkaopnaiiabGreatDoorKMove
import Derived.Test.YtcipbkaopnaiiabGreatDoorPErr
import Derived.Test.YtcipbkaopnaiiabGreatDoorKRefW
import Derived.Lib.QuietBelow
import Derived.Test.YtcipbkaopnaiiabGreatDoorCode
namespace Go.Proofs
open Go.Shelf
def Tryz.laysStr_ren : Go.Shelf.Ren := ⟨fun | 169 => 47 | n => n, fun | 70 => 88 | 9 => 9 | 0 => 0 | 72 => 91 | 37 => 89 | 127 => 131 | 3 => 3 | 5 => 5 | n => n, fun | n => n⟩
theorem Tryz.laysStr : Go.Proofs.Lays.n169 Tryz.prog Tryz.laysStr_ren := {
  mixed := by kernel_rfl
  f169 := Tryz.func47.trans (congrArg some (by kernel_rfl))
  t0 := Tryz.underlying0
  a0 := Tryz.isAgg0
  z0 := Tryz.sizeOf0
  v0 := Tryz.zeroValue0
  t3 := Tryz.underlying3
  a3 := Tryz.isAgg3
  z3 := Tryz.sizeOf3
  v3 := Tryz.zeroValue3
  t9 := Tryz.underlying9
  a9 := Tryz.isAgg9
  z9 := Tryz.sizeOf9
  v9 := Tryz.zeroValue9
  t37 := Tryz.underlying89
  a37 := Tryz.isAgg89
  z37 := Tryz.sizeOf89
  v37 := Tryz.zeroValue89
  t70 := Tryz.underlying88
  a70 := Tryz.isAgg88
  z70 := Tryz.sizeOf88
  v70 := Tryz.zeroValue88
  t72 := Tryz.underlying91
  a72 := Tryz.isAgg91
  z72 := Tryz.sizeOf91
  v72 := Tryz.zeroValue91
  t127 := Tryz.underlying131
  a127 := Tryz.isAgg131
  z127 := Tryz.sizeOf131
  v127 := Tryz.zeroValue131 }
end Go.Proofs
namespace Go.Proofs.YtcipbkaopnaiiabGreatDoor
open Go.RowKit Go.Lib Go.Shelf

/-- A builder in block b that holds these bytes; its row lies from B on. -/
def Bld (B b : Nat) (l : List UInt8) (w : World) : Prop :=
  b < B ∧ ∃ p v, (p = .pointer none ∨ p = .pointer (some ⟨b, 0, none⟩)) ∧ w.heap[b]? = some (.cells #[p, v] 91 (0, 0)) ∧ w.ownsRow B 5 1 v l.length (byteCells l)
/-- Nothing below B is turned but block b. -/
structure BelowBut (B b : Nat) (w w' : World) : Prop where
  os : w'.os = w.os
  tape : w'.tape = w.tape
  output : w'.output = w.output
  size : w.heap.size ≤ w'.heap.size
  block : ∀ k, k < B → k ≠ b → w'.heap[k]? = w.heap[k]?
  other : ∀ k o, w.heap[k]? = some o → k ≠ b → (∀ cs fz, o ≠ .cells cs 5 fz) → w'.heap[k]? = some o
theorem BelowBut.refl (B b : Nat) (w : World) : BelowBut B b w w := ⟨rfl, rfl, rfl, Nat.le_refl _, fun _ _ _ => rfl, fun _ _ h _ _ => h⟩
theorem BelowBut.trans {B b : Nat} {w w' w'' : World} (h : BelowBut B b w w') (k : BelowBut B b w' w'') : BelowBut B b w w'' :=
  ⟨k.os.trans h.os, k.tape.trans h.tape, k.output.trans h.output, Nat.le_trans h.size k.size, fun i hi hn => (k.block i hi hn).trans (h.block i hi hn), fun i o hi hn ho => k.other i o (h.other i o hi hn ho) hn ho⟩
theorem BelowBut.below {B b : Nat} {w w' : World} (h : BelowBut B b w w') (hb : b ≤ B) : Below b w w' := ⟨h.os, h.tape, h.output, h.size, fun k hk => h.block k (by omega) (by omega)⟩
theorem BelowBut.setCell (B b i : Nat) (w : World) (v : Value) : BelowBut B b w (w.setCell ⟨b, i, none⟩ v) := by
  have h := (Below.refl b w).setCell (p := ⟨b, i, none⟩) (Nat.le_refl _) v
  exact ⟨h.os, h.tape, h.output, h.size, fun k _ hn => Below.heap_setCell w ⟨b, i, none⟩ v k hn, fun k o ho hn _ => (Below.heap_setCell w ⟨b, i, none⟩ v k hn).trans ho⟩
theorem Tryz.bldX : Builder.Extra Tryz.prog Tryz.laysStr_ren where
  sizeBuilder := by kernel_rfl
  liesBuilder := by kernel_rfl
  t5 := Tryz.underlying5
  a5 := Tryz.isAgg5
  z5 := Tryz.sizeOf5
  v5 := Tryz.zeroValue5
  infoByte := by kernel_rfl
  cellsByte := by kernel_rfl
  sizeByte := by kernel_rfl
  neB5 := by decide
theorem Tryz.bldSize : (Tryz.prog.info? 91).map (·.size) = some 2 := by kernel_rfl
theorem Tryz.bldLies : liesAt Tryz.prog Tryz.prog.depth 91 (2 / Tryz.prog.cellsOf 91) 0 91 1 = true := by kernel_rfl
theorem Tryz.infoByte : (Tryz.prog.info? 5).map (fun i => (i.zero, i.size, i.bytes)) = some (some (.int .u8 0), 1, 1) := by kernel_rfl
theorem bld_own {B b : Nat} {l : List UInt8} {w : World} (h : Bld B b l w) {w' : World} (hb : Below w.heap.size w w') : Bld B b l w' := by
  obtain ⟨h0, p, v, h1, h2, h3⟩ := h
  exact ⟨h0, p, v, h1, (hb.block b (Array.getElem?_eq_some_iff.1 h2).1).trans h2, h3.kept (row := none) ⟨hb.os, hb.tape, hb.output, hb.size, fun k hk _ => hb.block k hk⟩ (by cases e : v.ownBlock with | none => exact Or.inl rfl | some k => exact Or.inr (by simp))⟩
theorem bld_lt {B b : Nat} {l : List UInt8} {w : World} (h : Bld B b l w) : b < w.heap.size := by
  obtain ⟨h0, p, v, h1, h2, h3⟩ := h
  exact (Array.getElem?_eq_some_iff.1 h2).1
theorem own_ne {w : World} {B b n : Nat} {v : Value} {xs : List Value} (h : w.ownsRow B 5 1 v n xs) (hb : b < B) : v.ownBlock ≠ some b := fun e => by have := (h.lt b e).1; omega
set_option maxHeartbeats 1000000 in
set_option maxRecDepth 100000 in
theorem bld_used (b : Nat) (w : World) (h0 : w.cell? ⟨b, 0, none⟩ = some (.pointer (some ⟨b, 0, none⟩))) :
    Calls Tryz.prog 85 #[.pointer (some ⟨b, 0, none⟩)] w fun e w' => e = .returned (.tuple #[]) ∧ w' = w := by
  obtain ⟨j, hj, _⟩ := Option.map_eq_some_iff.1 Tryz.bldSize
  go_enter Tryz.func85, Tryz.ntmps85
  go_wp2
  rw [run_neq_ptr_same w _ Tryz.underlying88 hj]
  go_wp2
  go_end0
  exact ⟨rfl, rfl⟩
set_option maxHeartbeats 1000000 in
set_option maxRecDepth 100000 in
theorem bld_fresh (b : Nat) (w : World) (h0 : w.cell? ⟨b, 0, none⟩ = some (.pointer none)) (hsh : w.shape? b = some (91, 2)) (hfz : w.frozen? ⟨b, 0, none⟩ = false) :
    Calls Tryz.prog 85 #[.pointer (some ⟨b, 0, none⟩)] w fun e w' => e = .returned (.tuple #[]) ∧ w' = w.setCell ⟨b, 0, none⟩ (.pointer (some ⟨b, 0, none⟩)) := by
  obtain ⟨j, hj, hjs⟩ := Option.map_eq_some_iff.1 Tryz.bldSize
  go_enter Tryz.func85, Tryz.ntmps85
  go_wp2
  rw [run_to_unsafe w ⟨b, 0, none⟩ Tryz.underlying88 Tryz.underlying150 hj (by rw [hjs]; decide) hsh (Nat.zero_lt_succ 1)]
  simp only [Result.andThen]
  rw [Oper.upon_value]
  go_wp2
  rw [run_callFunc_extern Tryz.func111 (by kernel_rfl) (by kernel_rfl) (by kernel_rfl) (e := Extern.AbiNoEscape.same) (by kernel_rfl), run_noEscape]
  simp only [Result.andThen]
  rw [Oper.upon_value]
  go_wp2
  rw [run_from_unsafe w ⟨b, 0, none⟩ Tryz.underlying150 Tryz.underlying88 hj hsh Tryz.bldLies]
  simp only [Result.andThen]
  rw [Oper.upon_value]
  go_wp2
  go_end0
  exact ⟨rfl, rfl⟩
theorem bld_check (B b : Nat) (l : List UInt8) (w : World) (h : Bld B b l w) :
    Calls Tryz.prog 85 #[.pointer (some ⟨b, 0, none⟩)] w fun e w' => e = .returned (.tuple #[]) ∧ (∃ v, w'.heap[b]? = some (.cells #[.pointer (some ⟨b, 0, none⟩), v] 91 (0, 0)) ∧ w'.ownsRow B 5 1 v l.length (byteCells l)) ∧ BelowBut B b w w' := by
  obtain ⟨h0, p, v, hp, h2, h3⟩ := h
  rcases hp with rfl | rfl
  · have hsh : w.shape? b = some (91, 2) := by simp [World.shape?, h2]
    exact (bld_fresh b w (by rw [cell_of_heap h2]; rfl) hsh (frozen_of_heap h2 0)).mono fun e w' ⟨he, hw⟩ => by
      subst hw
      refine ⟨he, ⟨v, ?_, ownsRow_setCell_other h3 (own_ne h3 h0) _⟩, BelowBut.setCell B b 0 w _⟩
      have := Joins.block_setCell (i := 0) h2 (.pointer (some ⟨b, 0, none⟩))
      simpa using this
  · exact (bld_used b w (by rw [cell_of_heap h2]; rfl)).mono fun e w' ⟨he, hw⟩ => by
      subst hw
      exact ⟨he, ⟨v, h2, h3⟩, BelowBut.refl B b _⟩
theorem size_len_b (s : ByteArray) : s.data.toList.length = s.size := (Lib.size_eq s).symm
theorem byteCells_append (l k : List UInt8) : byteCells (l ++ k) = byteCells l ++ byteCells k := by unfold byteCells; simp
theorem strCells_bytes (s : ByteArray) : strCells s = byteCells s.data.toList := by unfold strCells byteCells; rfl
theorem byteCells_len (l : List UInt8) : (byteCells l).length = l.length := by unfold byteCells; simp
theorem bld_turned {w1 w2 : World} {b : Nat} {p v : Value} {T : TypeId} (hbk : w1.heap[b]? = some (.cells #[p, v] T (0, 0))) (hne : v.ownBlock ≠ some b) (hg : w1.grownBy w2 v.ownBlock) :
    w2.heap[b]? = some (.cells #[p, v] T (0, 0)) ∧ w2.cell? ⟨b, 1, none⟩ = some v ∧ w2.frozen? ⟨b, 1, none⟩ = false := by
  have hlt : b < w1.heap.size := (Array.getElem?_eq_some_iff.1 hbk).1
  have hb2 : w2.heap[b]? = some (.cells #[p, v] T (0, 0)) := (hg.block b hlt (fun e => hne e.symm)).trans hbk
  exact ⟨hb2, by rw [cell_of_heap hb2]; rfl, frozen_of_heap hb2 1⟩
theorem own_slice {w : World} {B e n : Nat} {v : Value} {xs : List Value} (h : w.ownsRow B e 1 v n xs) : ∃ ao k cap, v = .slice ao k cap := by
  rcases h.2 with ⟨hv, _⟩ | ⟨g, cap, cur, hv, _⟩
  · exact ⟨_, _, _, hv⟩
  · exact ⟨_, _, _, hv⟩
set_option maxHeartbeats 2000000 in
set_option maxRecDepth 100000 in
/-- WriteString. -/
theorem bld_write (B b : Nat) (l : List UInt8) (s : ByteArray) (w : World) (h : Bld B b l w) (hlen : l.length + s.size ≤ 1000000) (hBw : B ≤ w.heap.size) :
    Calls Tryz.prog 44 #[.pointer (some ⟨b, 0, none⟩), .string s] w fun e w' => e = .returned (.tuple #[.int .i64 s.size, .nilIface]) ∧ Bld B b (l ++ s.data.toList) w' ∧ BelowBut B b w w' := by
  obtain ⟨i0, hi, hz0, hz1, hz2⟩ := info_parts Tryz.infoByte
  have hll : (byteCells l).length + s.size ≤ 1000000 := by rw [byteCells_len]; exact hlen
  have HC : Hid (Calls Tryz.prog 85 _ _ _) := bld_check B b l w h
  have HS : Hid (byteCells (l ++ s.data.toList) = byteCells l ++ strCells s) := by show _ = _; rw [byteCells_append, strCells_bytes]
  have HL : Hid ((byteCells l).length = l.length ∧ (l ++ s.data.toList).length = l.length + s.size) := ⟨byteCells_len l, by rw [List.length_append, size_len_b]⟩
  have h0 := h.1
  clear h hlen
  generalize byteCells l = bs at *
  go_enter Tryz.func44, Tryz.ntmps44
  go_wp2_with (first
    | (go_at_call 85; refine HC.out.mono ?_; rintro e w1 ⟨rfl, ⟨v, hbk, hown⟩, hb1⟩; have hne := own_ne hown h0; have c1 : w1.cell? ⟨b, 1, none⟩ = some v := (by rw [cell_of_heap hbk]; rfl))
    | (at_builtin; refine wpList_append_own_string _ rfl _ _ 89 9 rfl B 5 i0 Tryz.underlying89 Tryz.underlying9 hi hz0 hz1 hz2 _ _ _ rfl hown s rfl (by unfold maxLen; have := HL.out.1; omega) (by have := HL.out.1; omega) (by have := hb1.size; omega) ?_; intro v' w2 hown' hgrow _; obtain ⟨hb2, d1, f1⟩ := bld_turned hbk hne hgrow; obtain ⟨ao, n', cap, rfl⟩ := own_slice hown'))
  go_ret2
  refine ⟨rfl, ⟨h0, _, _, Or.inr rfl, by simpa using Joins.block_setCell (i := 1) hb2 (Value.slice ao n' cap), ?_⟩, ?_⟩
  · have hn' := own_ne hown' h0
    rw [HS.out, HL.out.2]
    exact ownsRow_setCell_other hown' hn' _
  · have hlt := fun k (e : v.ownBlock = some k) => (hown.lt k e).1
    exact (hb1.trans ⟨hgrow.os, hgrow.tape, hgrow.output, hgrow.size, fun k hk _ => by
      by_cases hkl : k < w1.heap.size
      · exact hgrow.block k hkl (fun e => by have := hlt k e.symm; omega)
      · have := hb1.size; omega, fun k o ho _ hx => (hgrow.block k (Array.getElem?_eq_some_iff.1 ho).1 (fun e => by
        obtain ⟨c, fz, hc⟩ := ownsRow_kind hown k e.symm
        rw [ho] at hc
        cases hc
        exact hx _ _ rfl)).trans ho⟩).trans (BelowBut.setCell B b 1 w2 _)
/-- String. -/
theorem bld_string (B b : Nat) (l : List UInt8) (w : World) (h : Bld B b l w) :
    Calls Tryz.prog 47 #[.pointer (some ⟨b, 0, none⟩)] w fun e w' => e = .returned (.string ⟨l.toArray⟩) ∧ Below b w w' := by
  have hlt := bld_lt h
  obtain ⟨h0, p, v, hp, h2, h3⟩ := h
  have hb : BuilderAt 91 5 b b p (byteCells l) w := ⟨Nat.le_refl _, v, h2, by rw [byteCells_len]; exact Joins.ownsRow_le h3 (Nat.le_of_lt h0), own_ne h3 h0⟩
  refine Any.Builder_String_any Tryz.laysStr Tryz.bldX b b l w ?_ (Nat.le_of_lt hlt)
  rcases hp with rfl | rfl
  · exact Or.inl hb
  · exact Or.inr hb
end Go.Proofs.YtcipbkaopnaiiabGreatDoor
namespace Go.Proofs.YtcipbkaopnaiiabGreatDoor
open Go.RowKit Go.Lib Go.Sort Go.Shelf

/-- A line as a text. -/
def lineZ (l : Ln) : ByteArray := ((((ptext l.1 ++ ⟨#[32]⟩) ++ l.2.1) ++ ⟨#[32]⟩) ++ ⟨(decDigits l.2.2.toNat).toArray⟩) ++ ⟨#[10]⟩
theorem lineZ_bytes (l : Ln) : (lineZ l).data.toList = lineB l ++ [10] := by
  unfold lineZ lineB pbytes
  simp only [append_bytes]
  simp
theorem ptext_size {x : Pl} (h : okP x = true) : (ptext x).size ≤ 36 := by rw [← size_len]; exact pbytes_len h
/-- Five joinings, one behind the other. -/
theorem joins5 (a c d : ByteArray) (ha : a.size ≤ 36) (hc : c.size ≤ 8) (hd : d.size ≤ 13) : ∃ t1 t2 t3 t4 : ByteArray,
    (∀ w, (Op.stringOp .add a ⟨#[32]⟩).run Tryz.prog w = .ok (.string t1) w) ∧ (∀ w, (Op.stringOp .add t1 c).run Tryz.prog w = .ok (.string t2) w) ∧ (∀ w, (Op.stringOp .add t2 ⟨#[32]⟩).run Tryz.prog w = .ok (.string t3) w) ∧
    (∀ w, (Op.stringOp .add t3 d).run Tryz.prog w = .ok (.string t4) w) ∧ (∀ w, (Op.stringOp .add t4 ⟨#[10]⟩).run Tryz.prog w = .ok (.string (((((a ++ ⟨#[32]⟩) ++ c) ++ ⟨#[32]⟩) ++ d) ++ ⟨#[10]⟩)) w) := by
  have e : (⟨#[32]⟩ : ByteArray).size = 1 := rfl
  have e' : (⟨#[10]⟩ : ByteArray).size = 1 := rfl
  refine ⟨_, _, _, _, fun w => run_string_add_sum w _ _ ?_, fun w => run_string_add_sum w _ _ ?_, fun w => run_string_add_sum w _ _ ?_, fun w => run_string_add_sum w _ _ ?_, fun w => run_string_add_sum w _ _ ?_⟩
  all_goals
    simp only [ByteArray.size_append, e, e']
    omega
theorem fresh_bld (w w1 : World) (hb : Below (w.heap.size + 1) (w.alloc (.cells #[.pointer none, .slice none 0 0] 91)) w1) : Bld w1.heap.size w.heap.size [] w1 := by
  refine ⟨?_, _, _, Or.inl rfl, (hb.block w.heap.size (by omega)).trans (heap_alloc_new w _), World.ownsRow_nil _ _ _ _⟩
  have := hb.size
  simp at this
  omega
theorem RowN.but {w w' : World} {g B b : Nat} {m : List Ln} (h : RowN w g m) (hb : BelowBut B b w w') (hg : g < B) (hn : g ≠ b) : RowN w' g m := h.of_block (hb.block g hg hn)
set_option maxRecDepth 100000 in
set_option maxHeartbeats 8000000 in
/-- Text. -/
theorem text_any (w : World) (s : Nat → Addr) (p b : Nat) (m : List Ln) (h : IsStock w p b m) (hs : Two w s) (hp : Pow w) :
    Calls Tryz.prog 11 #[.pointer (some ⟨p, 0, none⟩)] w fun e w' => e = .returned (.string ⟨(textB m).toArray⟩) ∧ Below w.heap.size w w' := by
  have hB : Below w.heap.size w (w.alloc (.cells #[.pointer none, .slice none 0 0] 91)) := (Below.refl _ w).alloc (Nat.le_refl _) _
  have HL : Hid (Calls Tryz.prog 42 _ _ _) := lines_any _ p b m (h.all hB)
  have HW : Hid (Wf m) := h.wf
  have h200 := h.wf.len
  have HPT : Hid (∀ (l : Ln) w1, okN l → Below w.heap.size w w1 → Calls Tryz.prog 45 #[agP l.1] w1 fun e w' => e = .returned (.string (ptext l.1)) ∧ Below w1.heap.size w1 w') := fun l w1 hl hb => ptext_any l.1 w1 s (by have := name_short (okP_bounds hl.1).1; unfold maxLen; omega) (hs.below hb) (hp.below hb)
  have HIT : Hid (∀ (l : Ln) w1, okN l → Below w.heap.size w w1 → Calls Tryz.prog 46 #[.int .i64 l.2.2] w1 fun e w' => e = .returned (.string ⟨(decDigits l.2.2.toNat).toArray⟩) ∧ Below w1.heap.size w1 w') := fun l w1 hl hb => itoa_any l.2.2 (by have := hl.2.2.1; omega) (by have := hl.2.2.2; omega) w1 (hp.below hb)
  have HB : Hid (Below w.heap.size w _) := hB
  clear h hs hp hB
  obtain ⟨ln, hln⟩ : ∃ ln, ln = m.length := ⟨_, rfl⟩
  have HN : Hid (ln = m.length) := hln
  rw [← hln] at HL h200
  clear hln
  go_enter Tryz.func11, Tryz.ntmps11
  go_wp2_with (go_at_call 42; refine HL.out.mono ?_; rintro e w1 ⟨g, cap, rfl, hg, hrow, hb1⟩)
  have hbl := fresh_bld w w1 (by simpa using hb1)
  have hg1 : Hid (ln = 0 ∨ (g < w1.heap.size ∧ g ≠ w.heap.size)) := by
    show _ ∨ _
    rcases Nat.eq_zero_or_pos ln with h0 | h0
    · exact Or.inl h0
    · have hlt : 0 < m.length := by rw [← HN.out]; exact h0
      have := (hrow 0 m[0] (List.getElem?_eq_getElem hlt)).lt
      simp at hg
      exact Or.inr ⟨this, by omega⟩
  have hbw : Below w.heap.size w w1 := HB.out.trans (hb1.mono (by simp))
  have HB1 : Hid (w.heap.size < w1.heap.size) := by have := hb1.size; simp at this; show _ < _; omega
  clear HL hb1 hg HB
  generalize hBB : w1.heap.size = B at *
  have HBB : Hid (B ≤ w1.heap.size) := by show _ ≤ _; omega
  clear hBB
  go_loopw [9] (fun i wr => ∃ k : Nat, k ≤ ln ∧ i = .int .i64 k ∧ Bld B w.heap.size (textB (m.take k)) wr ∧ RowN wr g m ∧ Below w.heap.size w wr ∧ B ≤ wr.heap.size) (fun i _ => ln - (RowKit.intOf i).toNat)
  case atStart => exact ⟨0, Nat.zero_le _, rfl, hbl, hrow, hbw, HBB.out⟩
  case round =>
    obtain ⟨k, hk, rfl, hbk, hrk, hwk, hBk⟩ := hrel
    by_cases hlt : k < ln
    · have hkm : k < m.length := by rw [← HN.out]; exact hlt
      obtain ⟨l, hl⟩ : ∃ l, m[k]? = some l := ⟨_, List.getElem?_eq_getElem hkm⟩
      have hok := HW.out.okN l (List.mem_of_getElem? hl)
      obtain ⟨c0, c1, c2, c3, c4⟩ := hrk k l hl
      have e1 := textB_take_succ hl
      have e2 := textB_take_len HW.out k
      have e3 := lineZ_bytes l
      have hP1 := fun w1 => HPT.out l w1 hok
      have hI1 := fun w1 => HIT.out l w1 hok
      have hjo := joins5 (ptext l.1) l.2.1 ⟨(decDigits l.2.2.toNat).toArray⟩ (ptext_size hok.1) (name_short hok.2.1) (dec_size _ (by have := hok.2.2; omega))
      have hsz : (lineZ l).size ≤ 60 := by
        rw [← size_len, e3, List.length_append]
        have := lineB_len hok
        simp; omega
      have hbox := LineAt.new wr l 69 _ rfl
      unfold lineZ at e3 hsz
      clear hl hok hkm
      obtain ⟨⟨a, r, bb⟩, c, n⟩ := l
      simp only at c0 c1 c2 c3 c4 hP1 hI1 hjo hsz e3 hbox
      obtain ⟨t1, t2, t3, t4, s1, s2, s3, s4, s5⟩ := hjo
      generalize (((((ptext (a, r, bb) ++ ⟨#[32]⟩) ++ c) ++ ⟨#[32]⟩) ++ ⟨(decDigits n.toNat).toArray⟩) ++ ⟨#[10]⟩ : ByteArray) = t5 at *
      generalize ptext (a, r, bb) = tp at *
      generalize (⟨(decDigits n.toNat).toArray⟩ : ByteArray) = td at *
      have HE : Hid (textB (m.take (k + 1)) = textB (m.take k) ++ t5.data.toList) := by show _ = _; rw [e1, e3]
      unfold agP at hP1
      clear e1 e3
      obtain ⟨d0, d1, d2, d3, d4⟩ := hbox
      simp only [Nat.zero_add] at d0 d1 d2 d3 d4
      have HWr : Hid (∀ w3, Bld B w.heap.size (textB (m.take k)) w3 → B ≤ w3.heap.size → Calls Tryz.prog 44 #[.pointer (some ⟨w.heap.size, 0, none⟩), .string t5] w3 fun e w' => e = .returned (.tuple #[.int .i64 t5.size, .nilIface]) ∧ Bld B w.heap.size (textB (m.take k) ++ t5.data.toList) w' ∧ BelowBut B w.heap.size w3 w') := fun w3 h1 h2 => bld_write B w.heap.size _ t5 w3 h1 (by omega) h2
      go_wp2
      have hbx : Below w.heap.size w (wr.alloc (.cells #[.string a, .int .i64 r, .int .i64 bb, .string c, .int .i64 n] 69)).drew := (hwk.alloc hwk.size _).drew
      have hby : Below wr.heap.size wr (wr.alloc (.cells #[.string a, .int .i64 r, .int .i64 bb, .string c, .int .i64 n] 69)).drew := ((Below.refl _ wr).alloc (Nat.le_refl _) _).drew
      have HBK : Hid ((wr.alloc (.cells #[.string a, .int .i64 r, .int .i64 bb, .string c, .int .i64 n] 69)).drew.heap[wr.heap.size]? = some (.cells #[.string a, .int .i64 r, .int .i64 bb, .string c, .int .i64 n] 69)) := heap_alloc_new wr _
      generalize (wr.alloc (.cells #[.string a, .int .i64 r, .int .i64 bb, .string c, .int .i64 n] 69)) = W at *
      go_region_held3 (fun w' => w'.cell? ⟨wr.heap.size, 0, none⟩ = some (.string a) ∧ w'.cell? ⟨wr.heap.size, 1, none⟩ = some (.int .i64 r) ∧ w'.cell? ⟨wr.heap.size, 2, none⟩ = some (.int .i64 bb) ∧ w'.cell? ⟨wr.heap.size, 3, none⟩ = some (.string c) ∧ w'.cell? ⟨wr.heap.size, 4, none⟩ = some (.int .i64 n)) (go_keep)
        (first
          | (go_at_call 45; refine (hP1 _ hbx).mono ?_; rintro e w2 ⟨rfl, hb2⟩; obtain ⟨hc2, _⟩ := bcell hb2; have hlt2 : wr.heap.size < W.drew.heap.size := cell_lt d0; have k0 := (hc2 wr.heap.size 0 hlt2).trans d0; have k1 := (hc2 wr.heap.size 1 hlt2).trans d1; have k2 := (hc2 wr.heap.size 2 hlt2).trans d2; have k3 := (hc2 wr.heap.size 3 hlt2).trans d3; have k4 := (hc2 wr.heap.size 4 hlt2).trans d4; have hbx2 : Below w.heap.size w w2 := hbx.trans (hb2.mono hbx.size); have hby2 : Below wr.heap.size wr w2 := hby.trans (hb2.mono hby.size); clear hc2)
          | (go_at_call 46; refine (hI1 _ hbx2).mono ?_; rintro e w3 ⟨rfl, hb3⟩; obtain ⟨hc3, _⟩ := bcell hb3; have hlt3 : wr.heap.size < w2.heap.size := cell_lt k0; have j0 := (hc3 wr.heap.size 0 hlt3).trans k0; have j1 := (hc3 wr.heap.size 1 hlt3).trans k1; have j2 := (hc3 wr.heap.size 2 hlt3).trans k2; have j3 := (hc3 wr.heap.size 3 hlt3).trans k3; have j4 := (hc3 wr.heap.size 4 hlt3).trans k4; have hbx3 : Below w.heap.size w w3 := hbx2.trans (hb3.mono hbx2.size); have hby3 : Below wr.heap.size wr w3 := hby2.trans (hb3.mono hby2.size); clear hc3)
          | (go_at_call 44; refine (HWr.out _ (bld_own hbk hby3) (Nat.le_trans hBk hby3.size)).mono ?_; rintro e w4 ⟨rfl, hbl4, hbb4⟩; have hk4 := (hbb4.other wr.heap.size _ ((hb3.block _ hlt3).trans ((hb2.block _ hlt2).trans HBK.out)) (by have := HB1.out; omega) (by simp)); have i0 : w4.cell? ⟨wr.heap.size, 0, none⟩ = some (.string a) := (by rw [cell_of_heap hk4]; rfl); have i1 : w4.cell? ⟨wr.heap.size, 1, none⟩ = some (.int .i64 r) := (by rw [cell_of_heap hk4]; rfl); have i2 : w4.cell? ⟨wr.heap.size, 2, none⟩ = some (.int .i64 bb) := (by rw [cell_of_heap hk4]; rfl); have i3 : w4.cell? ⟨wr.heap.size, 3, none⟩ = some (.string c) := (by rw [cell_of_heap hk4]; rfl); have i4 : w4.cell? ⟨wr.heap.size, 4, none⟩ = some (.int .i64 n) := (by rw [cell_of_heap hk4]; rfl); clear hk4))
      go_wp2
      have hgk := hg1.out
      go_roundw
      case rel =>
        refine ⟨k + 1, by omega, by go_num, by rw [HE.out]; exact hbl4, ?_, hbx3.trans ((hbb4.below (Nat.le_of_lt HB1.out)).mono (Nat.le_refl _)), Nat.le_trans hBk (Nat.le_trans hby3.size hbb4.size)⟩
        rcases hgk with h0 | ⟨h1, h2⟩
        · omega
        · exact (hrk.below hby3).but hbb4 h1 h2
      case measure => simp [RowKit.intOf]; omega
    · have hkn : k = ln := by omega
      have e : m.take k = m := List.take_of_length_le (by rw [← HN.out]; omega)
      rw [e] at hbk
      have HS : Hid (Calls Tryz.prog 47 _ _ _) := bld_string B w.heap.size (textB m) wr hbk
      clear hkn e
      go_wp2_with (go_at_call 47; refine HS.out.mono ?_; rintro e w2 ⟨rfl, hb2⟩)
      go_ret
      exact ⟨rfl, hwk.trans hb2⟩
end Go.Proofs.YtcipbkaopnaiiabGreatDoor
namespace Go.Proofs.YtcipbkaopnaiiabGreatDoor
open Go.RowKit Go.Lib Go.Sort

theorem BoxAt.grown {q b : Nat} {x : Pl} {W W' : World} (h : BoxAt q x W) (hg : W.grownBy W' (some b)) (hne : q ≠ b) : BoxAt q x W' := by
  have hlt : q < W.heap.size := cell_lt h.c0
  have hb := hg.block q hlt (by simp; exact hne)
  exact ⟨(World.cell?_of_block (a := ⟨q, 0, none⟩) hb).trans h.c0, (World.cell?_of_block (a := ⟨q, 1, none⟩) hb).trans h.c1, (World.cell?_of_block (a := ⟨q, 2, none⟩) hb).trans h.c2⟩
/-- Sentinels and the table of powers, below a bound. -/
structure Old (w : World) (s : Nat → Addr) : Prop where
  five : Five w s
  pow : Pow w
theorem Old.below {w w' : World} {s : Nat → Addr} (h : Old w s) (hb : Below w.heap.size w w') : Old w' s := ⟨h.five.below hb, h.pow.below hb⟩
def kz : Pl := (⟨#[97]⟩, 1, 2)
def kc : ByteArray := ⟨#[108, 49]⟩
theorem kz_put : putE [] kz kc 5 = 0 ∧ putL [] kz kc 5 = [(kz, kc, 5)] := by decide
theorem kz_take : takeE [(kz, kc, 5)] (kz, kc) 2 = 0 ∧ takeL [(kz, kc, 5)] (kz, kc) 2 = [(kz, kc, 3)] := by decide
theorem kz_at : atL [(kz, kc, 3)] (kz, kc) = 3 := by decide
theorem kz_text : (⟨(textB [(kz, kc, 3)]).toArray⟩ : ByteArray) = ⟨#[97, 45, 49, 45, 50, 32, 108, 49, 32, 51, 10]⟩ := by
  have e1 : decDigits 1 = [49] := by rw [decDigits_one (by decide)]; rfl
  have e2 : decDigits 2 = [50] := by rw [decDigits_one (by decide)]; rfl
  have e3 : decDigits 3 = [51] := by rw [decDigits_one (by decide)]; rfl
  have h1 : pbytes kz = [97, 45, 49, 45, 50] := by
    rw [pbytes_ok (by decide)]
    show [97] ++ 45 :: (decDigits 1 ++ 45 :: decDigits 2) = _
    rw [e1, e2]; rfl
  rw [textB_one]
  unfold lineB
  show (⟨((pbytes kz ++ 32 :: ([108, 49] ++ 32 :: decDigits 3)) ++ [10]).toArray⟩ : ByteArray) = _
  rw [h1, e3]; rfl
theorem kz_key : KeyOk (kz, kc) := ⟨by decide, by decide, by decide, by decide⟩
set_option maxRecDepth 100000 in
set_option maxHeartbeats 4000000 in
theorem stocked_any (w : World) (s : Nat → Addr) (hs : Old w s) :
    Calls Tryz.prog 6 #[] w fun e w' => e = .returned (.bool true) ∧ Below w.heap.size w w' := by
  have H1 : Hid (∀ w1 p b, IsStock w1 p b [] → Below w.heap.size w w1 → Calls Tryz.prog 14 #[.pointer (some ⟨p, 0, none⟩), agP kz, .string kc, .int .i64 5] w1 fun e w' => e = .returned .nilIface ∧ IsStock w' p b [(kz, kc, 5)] ∧ w1.grownBy w' (some b)) := fun w1 p b hi hb => by
    have := put_any kz kc 5 w1 s p b [] hi (by decide) (by decide) (hs.five.below hb)
    rw [kz_put.1, kz_put.2] at this
    exact this
  have H2 : Hid (∀ w1 p b, IsStock w1 p b [(kz, kc, 5)] → Below w.heap.size w w1 → Calls Tryz.prog 16 #[.pointer (some ⟨p, 0, none⟩), agP kz, .string kc, .int .i64 2] w1 fun e w' => e = .returned .nilIface ∧ IsStock w' p b [(kz, kc, 3)] ∧ w1.grownBy w' (some b)) := fun w1 p b hi hb => by
    have := take_any kz kc 2 w1 s p b _ hi kz_key (hs.five.below hb)
    rw [kz_take.1, kz_take.2] at this
    exact this
  have H3 : Hid (∀ w1 p b, IsStock w1 p b [(kz, kc, 3)] → Calls Tryz.prog 21 #[.pointer (some ⟨p, 0, none⟩), agP kz, .string kc] w1 fun e w' => e = .returned (.int .i64 3) ∧ Below w1.heap.size w1 w') := fun w1 p b hi => by
    have := at_any kz kc w1 p b _ hi kz_key
    rw [kz_at] at this
    exact this
  have H4 : Hid (∀ w1 p b, IsStock w1 p b [(kz, kc, 3)] → Below w.heap.size w w1 → Calls Tryz.prog 11 #[.pointer (some ⟨p, 0, none⟩)] w1 fun e w' => e = .returned (.string ⟨#[97, 45, 49, 45, 50, 32, 108, 49, 32, 51, 10]⟩) ∧ Below w1.heap.size w1 w') := fun w1 p b hi hb => by
    have := text_any w1 s p b _ hi (hs.five.two.below hb) (hs.pow.below hb)
    rw [kz_text] at this
    exact this
  clear hs
  have hbox := fun (w1 : World) => BoxAt.new w1 kz 41 _ rfl
  unfold agP kz kc at *
  simp only at *
  go_enter Tryz.func6, Tryz.ntmps6
  go_wp2_with (first
    | (go_at_call 12; refine (new_any _).mono ?_; rintro e w1 ⟨rfl, hi1, hb1⟩; have hx1 := hbox w1; have hlt := hi1.lt; obtain ⟨c0, c1, c2⟩ := hbox w1; have hba := hb1.alloc hb1.size (.cells #[.string ⟨#[97]⟩, .int .i64 1, .int .i64 2] 41); have hia := hi1.all ((Below.refl _ w1).alloc (Nat.le_refl _) (.cells #[.string ⟨#[97]⟩, .int .i64 1, .int .i64 2] 41)); simp only at c0 c1 c2)
    | (go_at_call 14; refine (H1.out _ _ _ hia hba).mono ?_; rintro e w2 ⟨rfl, hi2, hg2⟩; have hb2 := grown_below hba (Nat.le_refl _) hg2; have hx2 := hx1.grown hg2 (by omega); obtain ⟨d0, d1, d2⟩ := hx2; simp only at d0 d1 d2)
    | (go_at_call 16; refine (H2.out _ _ _ hi2 hb2).mono ?_; rintro e w3 ⟨rfl, hi3, hg3⟩; have hb3 := grown_below hb2 (Nat.le_refl _) hg3; have hx3 := (hx1.grown hg2 (by omega)).grown hg3 (by omega); obtain ⟨f0, f1, f2⟩ := hx3; simp only at f0 f1 f2)
    | (go_at_call 21; refine (H3.out _ _ _ hi3).mono ?_; rintro e w4 ⟨rfl, hb4⟩; have hi4 := hi3.all hb4; have hb4w := hb3.trans (hb4.mono hb3.size))
    | (go_at_call 11; refine (H4.out _ _ _ hi4 hb4w).mono ?_; rintro e w5 ⟨rfl, hb5⟩))
  go_ret
  exact ⟨rfl, hb4w.trans (hb5.mono hb4w.size)⟩
end Go.Proofs.YtcipbkaopnaiiabGreatDoor
namespace Go.Proofs.YtcipbkaopnaiiabGreatDoor
open Go.RowKit Go.Lib Go.Sort

/-- An act: its kind, from, to, lot, number. -/
abbrev Ac := ByteArray × Pl × Pl × ByteArray × Int
def encA (x : Ac) : List Value := [.string x.1, .string x.2.1.1, .int .i64 x.2.1.2.1, .int .i64 x.2.1.2.2, .string x.2.2.1.1, .int .i64 x.2.2.1.2.1, .int .i64 x.2.2.1.2.2, .string x.2.2.2.1, .int .i64 x.2.2.2.2]
theorem encA_len (x : Ac) : (encA x).length = 9 := rfl
/-- An act lies at an offset of a block. -/
structure ActAt (w : World) (b o : Nat) (x : Ac) : Prop where
  c0 : w.cell? ⟨b, o, none⟩ = some (.string x.1)
  c1 : w.cell? ⟨b, o + 1, none⟩ = some (.string x.2.1.1)
  c2 : w.cell? ⟨b, o + 1 + 1, none⟩ = some (.int .i64 x.2.1.2.1)
  c3 : w.cell? ⟨b, o + 1 + 2, none⟩ = some (.int .i64 x.2.1.2.2)
  c4 : w.cell? ⟨b, o + 4, none⟩ = some (.string x.2.2.1.1)
  c5 : w.cell? ⟨b, o + 4 + 1, none⟩ = some (.int .i64 x.2.2.1.2.1)
  c6 : w.cell? ⟨b, o + 4 + 2, none⟩ = some (.int .i64 x.2.2.1.2.2)
  c7 : w.cell? ⟨b, o + 7, none⟩ = some (.string x.2.2.2.1)
  c8 : w.cell? ⟨b, o + 8, none⟩ = some (.int .i64 x.2.2.2.2)
theorem ActAt.below {w w' : World} {b o : Nat} {x : Ac} (h : ActAt w b o x) (hb : Below w.heap.size w w') : ActAt w' b o x := by
  have hlt : b < w.heap.size := cell_lt h.c0
  have k := hb.block b hlt
  exact ⟨(World.cell?_of_block (a := ⟨b, o, none⟩) k).trans h.c0, (World.cell?_of_block (a := ⟨b, o + 1, none⟩) k).trans h.c1, (World.cell?_of_block (a := ⟨b, o + 1 + 1, none⟩) k).trans h.c2, (World.cell?_of_block (a := ⟨b, o + 1 + 2, none⟩) k).trans h.c3, (World.cell?_of_block (a := ⟨b, o + 4, none⟩) k).trans h.c4, (World.cell?_of_block (a := ⟨b, o + 4 + 1, none⟩) k).trans h.c5, (World.cell?_of_block (a := ⟨b, o + 4 + 2, none⟩) k).trans h.c6, (World.cell?_of_block (a := ⟨b, o + 7, none⟩) k).trans h.c7, (World.cell?_of_block (a := ⟨b, o + 8, none⟩) k).trans h.c8⟩
/-- What an act that was read keeps. -/
structure WfA (x : Ac) : Prop where
  from_ : KeyOk (x.2.1, x.2.2.2.1)
  to_ : KeyOk (x.2.2.1, x.2.2.2.1)
  num : (Lit.int .i64 x.2.2.2.2).wf = true
def RowA (w : World) (b off : Nat) (d : List Ac) : Prop := ∀ i x, d[i]? = some x → ActAt w b (off + i * 9) x ∧ WfA x
theorem RowA.below {w w' : World} {b off : Nat} {d : List Ac} (h : RowA w b off d) (hb : Below w.heap.size w w') : RowA w' b off d := fun i x hi => ⟨(h i x hi).1.below hb, (h i x hi).2⟩

/-- A stock's text. -/
def txt (m : List Ln) : ByteArray := ⟨(textB m).toArray⟩
/-- Sentinels and the table, all of them. -/
structure Old6 (w : World) (s : Nat → Addr) : Prop where
  six : Six w s
  pow : Pow w
theorem Old6.below {w w' : World} {s : Nat → Addr} (h : Old6 w s) (hb : Below w.heap.size w w') : Old6 w' s := ⟨h.six.below hb, h.pow.below hb⟩
theorem Old6.old {w : World} {s : Nat → Addr} (h : Old6 w s) : Old w s := ⟨h.six.five, h.pow⟩
section
variable {W : World} {s : Nat → Addr} (hO : Old6 W s)
include hO
theorem lawText : ∀ w1 p b m, IsStock w1 p b m → Below W.heap.size W w1 → Calls Tryz.prog 11 #[.pointer (some ⟨p, 0, none⟩)] w1 fun e w' => e = .returned (.string (txt m)) ∧ IsStock w' p b m ∧ Below W.heap.size W w' ∧ Below w1.heap.size w1 w' := fun w1 p b m hi hb =>
  (text_any w1 s p b m hi (hO.six.five.two.below hb) (hO.pow.below hb)).mono fun _ _ ⟨he, hb'⟩ => ⟨he, hi.all hb', hb.trans (hb'.mono hb.size), hb'⟩
omit hO in
theorem lawOf (c : ByteArray) : ∀ w1 p b m, IsStock w1 p b m → Below W.heap.size W w1 → Calls Tryz.prog 23 #[.pointer (some ⟨p, 0, none⟩), .string c] w1 fun e w' => e = .returned (.int .i64 (ofL m c)) ∧ IsStock w' p b m ∧ Below W.heap.size W w' ∧ Below w1.heap.size w1 w' := fun w1 p b m hi hb =>
  (of_any c w1 p b m hi).mono fun _ _ ⟨he, hb'⟩ => ⟨he, hi.all hb', hb.trans (hb'.mono hb.size), hb'⟩
omit hO in
theorem lawAt (x : Pl) (c : ByteArray) (hk : KeyOk (x, c)) : ∀ w1 p b m, IsStock w1 p b m → Below W.heap.size W w1 → Calls Tryz.prog 21 #[.pointer (some ⟨p, 0, none⟩), agP x, .string c] w1 fun e w' => e = .returned (.int .i64 (atL m (x, c))) ∧ IsStock w' p b m ∧ Below W.heap.size W w' ∧ Below w1.heap.size w1 w' := fun w1 p b m hi hb =>
  (at_any x c w1 p b m hi hk).mono fun _ _ ⟨he, hb'⟩ => ⟨he, hi.all hb', hb.trans (hb'.mono hb.size), hb'⟩
theorem lawPut (x : Pl) (c : ByteArray) (n : Int) (hk : KeyOk (x, c)) : ∀ w1 p b m, IsStock w1 p b m → Below W.heap.size W w1 → W.heap.size ≤ b → Calls Tryz.prog 14 #[.pointer (some ⟨p, 0, none⟩), agP x, .string c, .int .i64 n] w1 fun e w' => e = .returned (errP s (putE m x c n)) ∧ IsStock w' p b (putL m x c n) ∧ Below W.heap.size W w' ∧ w1.grownBy w' (some b) := fun w1 p b m hi hb hB =>
  (put_any x c n w1 s p b m hi hk.z hk.c (hO.six.five.below hb)).mono fun _ _ ⟨he, hi', hg⟩ => ⟨he, hi', grown_below hb hB hg, hg⟩
theorem lawMove (x y : Pl) (c : ByteArray) (n : Int) (hk : KeyOk (x, c)) (hz : y.1.size ≤ maxLen) : ∀ w1 p b m, IsStock w1 p b m → Below W.heap.size W w1 → W.heap.size ≤ b → Calls Tryz.prog 18 #[.pointer (some ⟨p, 0, none⟩), agP x, agP y, .string c, .int .i64 n] w1 fun e w' => e = .returned (errP s (moveE m x y c n)) ∧ IsStock w' p b (moveL m x y c n) ∧ Below W.heap.size W w' ∧ w1.grownBy w' (some b) := fun w1 p b m hi hb hB =>
  (move_any x y c n w1 s p b m hi hk hz hk.c (hO.six.five.below hb)).mono fun _ _ ⟨he, hi', hg⟩ => ⟨he, hi', grown_below hb hB hg, hg⟩
end
end Go.Proofs.YtcipbkaopnaiiabGreatDoor
namespace Go.Proofs.YtcipbkaopnaiiabGreatDoor
open Go.RowKit Go.Lib Go.Sort

set_option maxRecDepth 100000 in
set_option maxHeartbeats 1000000 in
/-- PlaceText at a place that is well. -/
theorem placeText_in (x : Pl) (w : World) (hz : x.1.size ≤ maxLen) (h : okP x = true) :
    Calls Tryz.prog 74 #[agP x] w fun e w' => e = .returned (.string (ptext x)) ∧ Below w.heap.size w w' := by
  have hc : ∀ w, Calls Tryz.prog 48 #[agP x] w fun e w' => e = .returned (.int .i64 0) ∧ Below w.heap.size w w' := fun w => by
    have := placeError_any x w hz
    rw [(okP_err x).1 h] at this
    exact this
  obtain ⟨hn, a1, a2, a3, a4⟩ := okP_bounds h
  have ha := name_short hn
  unfold ptext
  rw [if_pos h]
  clear h hn
  obtain ⟨a, r, b⟩ := x
  unfold agP at *
  simp only at *
  have hB : ∀ o, Below w.heap.size w (w.alloc o) := fun o => (Below.refl _ w).alloc (Nat.le_refl _) _
  have hl1 := dec_size r.toNat (by omega)
  have hl2 := dec_size b.toNat (by omega)
  have hI1 := fun w1 => refDecimal r (by omega) (by omega) w1
  have hI2 := fun w1 => refDecimal b (by omega) (by omega) w1
  have HC : Hid (Calls Tryz.prog 48 #[.agg #[.string a, .int .i64 r, .int .i64 b]] (w.alloc (.cells #[.string a, .int .i64 r, .int .i64 b] 41)) _) := hc _
  clear hc hz
  generalize (⟨(decDigits r.toNat).toArray⟩ : ByteArray) = d1 at *
  generalize (⟨(decDigits b.toNat).toArray⟩ : ByteArray) = d2 at *
  obtain ⟨t1, t2, t3, s1, s2, s3, s4⟩ := joins a d1 d2 ha hl1 hl2
  generalize ((((a ++ ⟨#[45]⟩) ++ d1) ++ ⟨#[45]⟩) ++ d2 : ByteArray) = t4 at *
  clear hl1 hl2 ha
  go_enter Tryz.func74, Tryz.ntmps74
  go_wp2_with (go_at_call 48; refine HC.out.mono ?_; rintro e w1 ⟨rfl, hb⟩; have g0 : w1.cell? ⟨w.heap.size, 0, none⟩ = some (.string a) := (hb.cell (p := ⟨w.heap.size, 0, none⟩) (by simp)).trans (by simp); have g1 : w1.cell? ⟨w.heap.size, 1, none⟩ = some (.int .i64 r) := (hb.cell (p := ⟨w.heap.size, 1, none⟩) (by simp)).trans (by simp); have g2 : w1.cell? ⟨w.heap.size, 2, none⟩ = some (.int .i64 b) := (hb.cell (p := ⟨w.heap.size, 2, none⟩) (by simp)).trans (by simp); have hb1 : Below w.heap.size w w1 := (hB _).trans (hb.mono (by simp)))
  have hbR : ∀ d os, Below w.heap.size w (grow (redrawn w1 d) os) := fun d os => hb1.trans ((below_regrown w1 d os).mono hb1.size)
  have k0 := cell_regrown g0
  have k1 := cell_regrown g1
  have k2 := cell_regrown g2
  have cI1 := fun d os => Calls.regrown_of (w := w1) (d := d) (os := os) (hI1 _)
  have cI2 := fun d os => Calls.regrown_of (w := w1) (d := d) (os := os) (hI2 _)
  clear g0 g1 g2 hb hb1 HC hI1 hI2
  refine wp_region_quiet_below (by kernel_rfl) (by kernel_rfl) ?_
  repeat (quiet_step (first | (go_at_call_of 72 (Value.int .i64 r); exact cI1 _ _) | (go_at_call_of 72 (Value.int .i64 b); exact cI2 _ _)))
  refine wpQuiet_nil ?_
  intro _ hw'
  obtain ⟨⟨dq, osq⟩, hw''⟩ := hw'
  subst hw''
  have hbE := hbR dq osq
  go_wp2
  go_ret
  exact ⟨rfl, hbE⟩
set_option maxHeartbeats 1000000 in
theorem placeText_out (x : Pl) (w : World) (hz : x.1.size ≤ maxLen) (h : okP x = false) :
    Calls Tryz.prog 74 #[agP x] w fun e w' => e = .returned (.string (ptext x)) ∧ Below w.heap.size w w' := by
  have hc := fun w => placeError_any x w hz
  have hk : (0 : Int) < (placeErr x : Int) := by
    have : placeErr x ≠ 0 := fun e => by rw [(okP_err x).2 e] at h; cases h
    omega
  unfold ptext
  rw [h, if_neg (by decide)]
  clear h
  generalize (placeErr x : Int) = k at *
  obtain ⟨a, r, b⟩ := x
  unfold agP at *
  simp only at *
  have hB : ∀ o, Below w.heap.size w (w.alloc o) := fun o => (Below.refl _ w).alloc (Nat.le_refl _) _
  have HC : Hid (Calls Tryz.prog 48 #[.agg #[.string a, .int .i64 r, .int .i64 b]] (w.alloc (.cells #[.string a, .int .i64 r, .int .i64 b] 41)) _) := hc _
  clear hc hz
  go_enter Tryz.func74, Tryz.ntmps74
  go_wp2_with (go_at_call 48; refine HC.out.mono ?_; rintro e w1 ⟨rfl, hb⟩)
  go_ret
  exact ⟨rfl, (hB _).trans (hb.mono (by simp))⟩
/-- PlaceText. -/
theorem placeText_any (x : Pl) (w : World) (hz : x.1.size ≤ maxLen) :
    Calls Tryz.prog 74 #[agP x] w fun e w' => e = .returned (.string (ptext x)) ∧ Below w.heap.size w w' := by
  cases h : okP x with
  | true => exact placeText_in x w hz h
  | false => exact placeText_out x w hz h
end Go.Proofs.YtcipbkaopnaiiabGreatDoor
namespace Go.Proofs.YtcipbkaopnaiiabGreatDoor
open Go.RowKit Go.Lib Go.Sort

/-- A line's text, without its end. -/
def lineT (l : Ln) : ByteArray := (((ptext l.1 ++ ⟨#[32]⟩) ++ l.2.1) ++ ⟨#[32]⟩) ++ ⟨(decDigits l.2.2.toNat).toArray⟩
theorem lineT_bytes (l : Ln) : (lineT l).data.toList = lineB l := by
  unfold lineT lineB pbytes
  simp only [append_bytes]
  simp
theorem joins4 (a c d : ByteArray) (ha : a.size ≤ 36) (hc : c.size ≤ 8) (hd : d.size ≤ 13) : ∃ t1 t2 t3 : ByteArray,
    (∀ w, (Op.stringOp .add a ⟨#[32]⟩).run Tryz.prog w = .ok (.string t1) w) ∧ (∀ w, (Op.stringOp .add t1 c).run Tryz.prog w = .ok (.string t2) w) ∧ (∀ w, (Op.stringOp .add t2 ⟨#[32]⟩).run Tryz.prog w = .ok (.string t3) w) ∧
    (∀ w, (Op.stringOp .add t3 d).run Tryz.prog w = .ok (.string ((((a ++ ⟨#[32]⟩) ++ c) ++ ⟨#[32]⟩) ++ d)) w) := by
  have e : (⟨#[32]⟩ : ByteArray).size = 1 := rfl
  refine ⟨_, _, _, fun w => run_string_add_sum w _ _ ?_, fun w => run_string_add_sum w _ _ ?_, fun w => run_string_add_sum w _ _ ?_, fun w => run_string_add_sum w _ _ ?_⟩
  all_goals
    simp only [ByteArray.size_append, e]
    omega
set_option maxRecDepth 100000 in
set_option maxHeartbeats 2000000 in
/-- LineText. -/
theorem lineText_any (l : Ln) (w : World) (hok : okN l) :
    Calls Tryz.prog 84 #[agN l] w fun e w' => e = .returned (.string (lineT l)) ∧ Below w.heap.size w w' := by
  have hP := fun w1 => placeText_in l.1 w1 (by have := name_short (okP_bounds hok.1).1; unfold maxLen; omega) hok.1
  have hD := fun w1 => refDecimal l.2.2 (by have := hok.2.2.1; omega) (by have := hok.2.2.2; omega) w1
  obtain ⟨t1, t2, t3, s1, s2, s3, s4⟩ := joins4 (ptext l.1) l.2.1 ⟨(decDigits l.2.2.toNat).toArray⟩ (ptext_size hok.1) (name_short hok.2.1) (dec_size _ (by have := hok.2.2; omega))
  have hB : Below w.heap.size w (w.alloc (.cells #[.string l.1.1, .int .i64 l.1.2.1, .int .i64 l.1.2.2, .string l.2.1, .int .i64 l.2.2] 69)) := (Below.refl _ w).alloc (Nat.le_refl _) _
  obtain ⟨c0, c1, c2, c3, c4⟩ := LineAt.new w l 69 _ rfl
  unfold lineT
  clear hok
  obtain ⟨⟨a, r, bb⟩, c, n⟩ := l
  unfold agN agP at *
  simp only [Nat.zero_add] at *
  generalize ((((ptext (a, r, bb) ++ ⟨#[32]⟩) ++ c) ++ ⟨#[32]⟩) ++ ⟨(decDigits n.toNat).toArray⟩ : ByteArray) = t4 at *
  generalize ptext (a, r, bb) = tp at *
  generalize (⟨(decDigits n.toNat).toArray⟩ : ByteArray) = td at *
  have k0 := cell_regrown c0
  have k1 := cell_regrown c1
  have k2 := cell_regrown c2
  have k3 := cell_regrown c3
  have k4 := cell_regrown c4
  have HB : Hid (Below _ _ _) := hB
  clear c0 c1 c2 c3 c4 hB
  go_enter Tryz.func84, Tryz.ntmps84
  go_wp2
  generalize w.alloc (.cells #[.string a, .int .i64 r, .int .i64 bb, .string c, .int .i64 n] 69) = W at *
  have cP := fun d os => Calls.regrown_of (w := W) (d := d) (os := os) (hP _)
  have cD := fun d os => Calls.regrown_of (w := W) (d := d) (os := os) (hD _)
  clear hP hD
  refine wp_region_quiet_below (by kernel_rfl) (by kernel_rfl) ?_
  repeat (quiet_step (first | (go_at_call 74; exact cP _ _) | (go_at_call 72; exact cD _ _)))
  refine wpQuiet_nil ?_
  intro _ hw'
  obtain ⟨⟨dq, osq⟩, hw''⟩ := hw'
  subst hw''
  have hbE := HB.out.trans ((below_regrown W dq osq).mono HB.out.size)
  go_wp2
  go_ret
  exact ⟨rfl, hbE⟩
theorem txt_step {m : List Ln} {k : Nat} {l : Ln} (hl : m[k]? = some l) : (txt (m.take k) ++ lineT l) ++ ⟨#[10]⟩ = txt (m.take (k + 1)) := by
  have h1 : ∀ a b : ByteArray, a.data.toList = b.data.toList → a = b := fun a b h => by cases a; cases b; simp at h; rw [h]
  apply h1
  rw [append_bytes, append_bytes, lineT_bytes]
  unfold txt
  rw [bytes_toList, bytes_toList, textB_take_succ hl]
  simp
theorem txt_size (m : List Ln) : (txt m).size = (textB m).length := mk_size _
set_option maxRecDepth 100000 in
set_option maxHeartbeats 4000000 in
/-- Text. -/
theorem refText_any (v : Value) (m : List Ln) (w : World) (h : RefS w v m) (hw : Wf m) :
    Calls Tryz.prog 43 #[.agg #[v]] w fun e w' => e = .returned (.string (txt m)) ∧ Below w.heap.size w w' := by
  have hB : Below w.heap.size w (w.alloc (.cells #[v] 30)) := (Below.refl _ w).alloc (Nat.le_refl _) _
  have hv : (w.alloc (.cells #[v] 30)).cell? ⟨w.heap.size, 0, none⟩ = some v := by rw [World.cell?_alloc_at _ _ _ _ rfl]; rfl
  obtain ⟨ao, cap, rfl, hsh⟩ := (h.all hB).shape
  have h200 := hw.len
  have HW : Hid (Wf m) := hw
  clear h hw
  generalize hln : m.length = ln at *
  have HN : Hid (ln = m.length) := hln.symm
  clear hln
  have HB : Hid (Below _ _ _) := hB
  have HS : Hid (∀ k l, m[k]? = some l → _) := hsh
  have HV : Hid (_ = some (Value.slice ao ln cap)) := hv
  have HL0 : Hid (w.heap.size < (w.alloc (.cells #[.slice ao ln cap] 30)).heap.size) := by show _ < _; simp
  have et : txt (m.take 0) = ⟨#[]⟩ := rfl
  clear hB hsh
  go_enter Tryz.func43, Tryz.ntmps43
  go_wp2
  generalize w.alloc (.cells #[.slice ao ln cap] 30) = W at *
  go_loopw [3, 4] (fun sv i wr => ∃ k : Nat, k ≤ ln ∧ i = .int .i64 k ∧ sv = .string (txt (m.take k)) ∧ Below W.heap.size W wr) (fun _ i _ => ln - (RowKit.intOf i).toNat)
  case atStart => exact ⟨0, Nat.zero_le _, rfl, by rw [et], Below.refl _ _⟩
  case round =>
    clear et
    obtain ⟨k, hk, rfl, rfl, hwr⟩ := hrel
    have hvr : wr.cell? ⟨w.heap.size, 0, none⟩ = some (.slice ao ln cap) := by rw [hwr.cell (p := ⟨w.heap.size, 0, none⟩) HL0.out]; exact HV.out
    by_cases hlt : k < ln
    · have hkm : k < m.length := by rw [← HN.out]; exact hlt
      obtain ⟨l, hl⟩ : ∃ l, m[k]? = some l := ⟨_, List.getElem?_eq_getElem hkm⟩
      obtain ⟨g, rfl, hg, hline⟩ := HS.out k l hl
      obtain ⟨c0, c1, c2, c3, c4⟩ := hline.below hwr
      have hok := HW.out.okN l (List.mem_of_getElem? hl)
      have hT := fun w1 => lineText_any l w1 hok
      have HE : Hid ((txt (m.take k) ++ lineT l) ++ ⟨#[10]⟩ = txt (m.take (k + 1))) := txt_step hl
      have z1 : (txt (m.take k)).size ≤ 12000 := by rw [txt_size]; exact textB_take_len HW.out k
      have z2 : (lineT l).size ≤ 59 := by rw [← size_len, lineT_bytes]; exact lineB_len hok
      have z3 : (txt (m.take k) ++ lineT l).size ≤ 12059 := by rw [ByteArray.size_append]; omega
      clear hl hkm hline hok
      generalize lineT l = tl at *
      generalize txt (m.take k) = tk at *
      obtain ⟨⟨la, lr, lb⟩, lc, lnn⟩ := l
      unfold agN at hT
      simp only at c0 c1 c2 c3 c4 hT
      go_wp2_with (go_at_call 84; refine (hT _).mono ?_; rintro e w2 ⟨rfl, hb2⟩)
      go_roundw
      case rel => exact ⟨k + 1, by omega, by go_num, by rw [← HE.out], hwr.trans (hb2.mono hwr.size)⟩
      case measure => simp [RowKit.intOf]; omega
    · have e : m.take k = m := List.take_of_length_le (by rw [← HN.out]; omega)
      have HE : Hid (txt (m.take k) = txt m) := by show _ = _; rw [e]
      clear e
      generalize txt (m.take k) = tk at *
      go_wp2
      go_ret
      exact ⟨by rw [← HE.out]; rfl, HB.out.trans (hwr.mono HB.out.size)⟩
end Go.Proofs.YtcipbkaopnaiiabGreatDoor
namespace Go.Proofs.YtcipbkaopnaiiabGreatDoor
open Go.RowKit Go.Lib Go.Sort

theorem Tryz.guardN : Tryz.prog.eqGuardType Tryz.prog.depth 69 = false := by kernel_rfl
theorem eqP9_run (x : Pl) (w : World) : (Op.equalIn 9999 41 (.agg #[.string x.1, .int .i64 x.2.1, .int .i64 x.2.2]) (.agg #[.string x.1, .int .i64 x.2.1, .int .i64 x.2.2])).run Tryz.prog w = .ok true w := by
  obtain ⟨a, r, b⟩ := x
  have u3 := Tryz.underlying3
  have a3 := Tryz.isAgg3
  have z3 := Tryz.sizeOf3
  have u9 := Tryz.underlying9
  have a9 := Tryz.isAgg9
  have z9 := Tryz.sizeOf9
  have hS : Tryz.prog.underlying 41 = some (.struct (Tryz.prog.fieldsOf 41)) := by kernel_rfl
  have hp : Tryz.prog.stoodInHeld 41 = false := by kernel_rfl
  rw [show (9999 : Nat) = 9998 + 1 from rfl, run_equalIn_agg w 9998 41 _ _ hS hp]
  simp only [Program.fieldsOf, Tryz.underlying41]
  go_simp
theorem eqN_run (x : Ln) (w : World) : (Op.equalIn 10000 69 (agN x) (agN x)).run Tryz.prog w = .ok true w := by
  have hP := eqP9_run x.1
  obtain ⟨⟨a, r, b⟩, c, n⟩ := x
  unfold agN
  simp only at hP ⊢
  have u3 := Tryz.underlying3
  have a3 := Tryz.isAgg3
  have z3 := Tryz.sizeOf3
  have u9 := Tryz.underlying9
  have a9 := Tryz.isAgg9
  have z9 := Tryz.sizeOf9
  have a41 := Tryz.isAgg41
  have z41 := Tryz.sizeOf41
  have hS : Tryz.prog.underlying 69 = some (.struct (Tryz.prog.fieldsOf 69)) := by kernel_rfl
  have hp : Tryz.prog.stoodInHeld 69 = false := by kernel_rfl
  rw [show (10000 : Nat) = 9999 + 1 from rfl, run_equalIn_agg w 9999 69 _ _ hS hp]
  simp only [Program.fieldsOf, Tryz.underlying69]
  go_simp
set_option maxRecDepth 100000 in
set_option maxHeartbeats 8000000 in
/-- AsStock. -/
theorem asStock_any (w : World) (s : Nat → Addr) (p b : Nat) (m : List Ln) (v : Value) (hi : IsStock w p b m) (hr : RefS w v m) (hO : Old6 w s) :
    Calls Tryz.prog 10 #[.pointer (some ⟨p, 0, none⟩), .agg #[v]] w fun e w' => e = .returned (.int .i64 1) ∧ Below w.heap.size w w' := by
  have hB : Below w.heap.size w (w.alloc (.cells #[v] 30)) := (Below.refl _ w).alloc (Nat.le_refl _) _
  have hv : (w.alloc (.cells #[v] 30)).cell? ⟨w.heap.size, 0, none⟩ = some v := by rw [World.cell?_alloc_at _ _ _ _ rfl]; rfl
  have hL := lines_any _ p b m (hi.all hB)
  have h200 := hi.wf.len
  have hwf := hi.wf
  have HI : Hid (∀ w1, Below w.heap.size w w1 → IsStock w1 p b m) := fun w1 hb => hi.all hb
  obtain ⟨ao, cap, rfl, hsh⟩ := hr.shape
  have HSh : Hid (∀ k l, m[k]? = some l → ∃ g, ao = some ⟨g, 0, none⟩ ∧ g < w.heap.size ∧ LineAt w g (k * 5) l) := hsh
  have HTx : Hid (∀ w1, Below w.heap.size w w1 → Calls Tryz.prog 11 #[.pointer (some ⟨p, 0, none⟩)] w1 fun e w' => e = .returned (.string (txt m)) ∧ Below w1.heap.size w1 w') := fun w1 hb => (lawText hO w1 p b m (hi.all hb) hb).mono fun _ _ ⟨he, _, _, hb'⟩ => ⟨he, hb'⟩
  have HRt : Hid (∀ w1, Below w.heap.size w w1 → Calls Tryz.prog 43 #[.agg #[.slice ao m.length cap]] w1 fun e w' => e = .returned (.string (txt m)) ∧ Below w1.heap.size w1 w') := fun w1 hb => refText_any _ m w1 (hr.all hb) hwf
  have HOf : Hid (∀ c w1, Below w.heap.size w w1 → Calls Tryz.prog 23 #[.pointer (some ⟨p, 0, none⟩), .string c] w1 fun e w' => e = .returned (.int .i64 (ofL m c)) ∧ Below w1.heap.size w1 w') := fun c w1 hb => of_any c w1 p b m (hi.all hb)
  have HRo : Hid (∀ c w1, Below w.heap.size w w1 → Calls Tryz.prog 24 #[.agg #[.slice ao m.length cap], .string c] w1 fun e w' => e = .returned (.int .i64 (ofL m c)) ∧ Below w1.heap.size w1 w') := fun c w1 hb => refOf_any _ m c w1 (hr.all hb) hwf
  have HB : Hid (Below _ _ _) := hB
  have HV : Hid (_ = some (Value.slice ao m.length cap)) := hv
  have HL : Hid (Calls Tryz.prog 42 _ _ _) := hL
  clear hi hr hO hsh hwf hB hL
  generalize hln : m.length = ln at *
  have HN : Hid (ln = m.length) := hln.symm
  clear hln
  go_enter Tryz.func10, Tryz.ntmps10
  go_wp2_with (go_at_call 42; refine HL.out.mono ?_; rintro e w1 ⟨g, cp, rfl, hg, hrow, hb1⟩; have hbw1 := HB.out.trans (hb1.mono HB.out.size))
  have hv1 : w1.cell? ⟨w.heap.size, 0, none⟩ = some (.slice ao ln cap) := (hb1.cell (p := ⟨w.heap.size, 0, none⟩) (by simp)).trans HV.out
  have hHW : Hid (w.heap.size < w1.heap.size) := by have := hb1.size; simp at this; show _ < _; omega
  have k0 := cell_regrown hv1
  have hbR : ∀ d os, Below w.heap.size w (grow (redrawn w1 d) os) := fun d os => hbw1.trans ((below_regrown w1 d os).mono hbw1.size)
  have cT := fun d os => Calls.regrown_of (w := w1) (d := d) (os := os) (HTx.out _ (hbR d os))
  have cR := fun d os => Calls.regrown_of (w := w1) (d := d) (os := os) (HRt.out _ (hbR d os))
  have HRow : Hid (RowN w1 g m) := hrow
  have HBW1 : Hid (Below w.heap.size w w1) := hbw1
  have HV1 : Hid (_ = some (Value.slice ao ln cap)) := hv1
  clear hrow hg hb1 hbw1 hv hv1 HL
  generalize txt m = tm at *
  refine wp_region_quiet_below (by kernel_rfl) (by kernel_rfl) ?_
  repeat (quiet_step (first | (go_at_call 11; exact cT _ _) | (go_at_call 43; exact cR _ _)))
  refine wpQuiet_nil ?_
  intro _ hw'
  obtain ⟨⟨dq, osq⟩, hw''⟩ := hw'
  subst hw''
  have hbE := below_regrown w1 dq osq
  generalize grow (redrawn w1 dq) osq = W2 at *
  clear cT cR k0 hbR
  go_wp2
  go_loopw [6] (fun i wr => ∃ k : Nat, k ≤ ln ∧ i = .int .i64 k ∧ Below w1.heap.size w1 wr) (fun i _ => ln - (RowKit.intOf i).toNat)
  case atStart => exact ⟨0, Nat.zero_le _, rfl, hbE⟩
  case round =>
    clear hbE
    obtain ⟨k, hk, rfl, hwr⟩ := hrel
    by_cases hlt : k < ln
    · have hkm : k < m.length := by rw [← HN.out]; exact hlt
      obtain ⟨l, hl⟩ : ∃ l, m[k]? = some l := ⟨_, List.getElem?_eq_getElem hkm⟩
      obtain ⟨g2, rfl, hg2, hline2⟩ := HSh.out k l hl
      obtain ⟨c0, c1, c2, c3, c4⟩ := HRow.out.below hwr k l hl
      have hbw := HBW1.out.trans (hwr.mono HBW1.out.size)
      obtain ⟨d0, d1, d2, d3, d4⟩ := hline2.below hbw
      have hvr : wr.cell? ⟨w.heap.size, 0, none⟩ = some (.slice (some ⟨g2, 0, none⟩) ln cap) := by rw [hwr.cell (p := ⟨w.heap.size, 0, none⟩) hHW.out]; exact HV1.out
      have hE := fun W => eqN_run l W
      have hG := Tryz.guardN
      clear hl hkm hline2 hg2
      obtain ⟨⟨la, lr, lb⟩, lc, lnn⟩ := l
      unfold agN at hE
      simp only at c0 c1 c2 c3 c4 d0 d1 d2 d3 d4 hE
      have j0 := cell_regrown c0
      have j1 := cell_regrown c1
      have j2 := cell_regrown c2
      have j3 := cell_regrown c3
      have j4 := cell_regrown c4
      have i0 := cell_regrown d0
      have i1 := cell_regrown d1
      have i2 := cell_regrown d2
      have i3 := cell_regrown d3
      have i4 := cell_regrown d4
      have iv := cell_regrown hvr
      have hbR : ∀ d os, Below w.heap.size w (grow (redrawn wr d) os) := fun d os => hbw.trans ((below_regrown wr d os).mono hbw.size)
      have cT := fun d os => Calls.regrown_of (w := wr) (d := d) (os := os) (HOf.out lc _ (hbR d os))
      have cR := fun d os => Calls.regrown_of (w := wr) (d := d) (os := os) (HRo.out lc _ (hbR d os))
      clear c0 c1 c2 c3 c4 d0 d1 d2 d3 d4 hvr
      generalize ofL m lc = O at *
      go_wp2
      refine wp_region_quiet_below (by kernel_rfl) (by kernel_rfl) ?_
      repeat (quiet_step (first | (go_at_call 23; exact cT _ _) | (go_at_call 24; exact cR _ _)))
      refine wpQuiet_nil ?_
      intro _ hw'
      obtain ⟨⟨dz, osz⟩, hw''⟩ := hw'
      subst hw''
      have hbE := hwr.trans ((below_regrown wr dz osz).mono hwr.size)
      go_wp2
      go_roundw
      case rel => exact ⟨k + 1, by omega, by go_num, hbE⟩
      case measure => simp [RowKit.intOf]; omega
    · go_wp2
      go_ret
      exact ⟨rfl, HBW1.out.trans (hwr.mono HBW1.out.size)⟩
end Go.Proofs.YtcipbkaopnaiiabGreatDoor
namespace Go.Proofs.YtcipbkaopnaiiabGreatDoor
open Go.RowKit Go.Lib Go.Sort

/-- All that was there. -/
structure OldR (w : World) (s : Nat → Addr) : Prop where
  sent : Sent w s
  handle : Handle w
  pow : Pow w
theorem OldR.below {w w' : World} {s : Nat → Addr} (h : OldR w s) (hb : Below w.heap.size w w') : OldR w' s := ⟨h.sent.below hb, h.handle.below hb, h.pow.below hb⟩
theorem OldR.old6 {w : World} {s : Nat → Addr} (h : OldR w s) : Old6 w s := ⟨h.sent.six, h.pow⟩
set_option maxRecDepth 100000 in
set_option maxHeartbeats 1000000 in
/-- faulted at an error whose number and place are those of the fault. -/
theorem faulted_of (v : Value) (c n : Int) (w : World) (hc : 0 < c) (hv : ∀ w1, Below w.heap.size w w1 → Calls Tryz.prog 41 #[v] w1 fun e w' => e = .returned (.tuple #[.int .i64 c, .int .i64 n]) ∧ Below w1.heap.size w1 w') :
    Calls Tryz.prog 9 #[v, .agg #[.int .i64 c, .int .i64 n]] w fun e w' => e = .returned (.bool true) ∧ Below w.heap.size w w' := by
  have hB : Below w.heap.size w (w.alloc (.cells #[.int .i64 c, .int .i64 n] 32)) := (Below.refl _ w).alloc (Nat.le_refl _) _
  have hC := hv _ hB
  have h0 : (c == 0) = false := by simp; omega
  have k0 : (w.alloc (.cells #[.int .i64 c, .int .i64 n] 32)).cell? ⟨w.heap.size, 0, none⟩ = some (.int .i64 c) := by rw [World.cell?_alloc_at _ _ _ _ rfl]; rfl
  have k1 : (w.alloc (.cells #[.int .i64 c, .int .i64 n] 32)).cell? ⟨w.heap.size, 1, none⟩ = some (.int .i64 n) := by rw [World.cell?_alloc_at _ _ _ _ rfl]; rfl
  have HC : Hid (Calls Tryz.prog 41 _ _ _) := hC
  have HB : Hid (Below _ _ _) := hB
  clear hC hv hB
  go_enter Tryz.func9, Tryz.ntmps9
  go_wp2_with (go_at_call 41; refine HC.out.mono ?_; rintro e w1 ⟨rfl, hb1⟩; have j0 := (hb1.cell (p := ⟨w.heap.size, 0, none⟩) (cell_lt k0)).trans k0; have j1 := (hb1.cell (p := ⟨w.heap.size, 1, none⟩) (cell_lt k1)).trans k1)
  go_ret
  exact ⟨rfl, HB.out.trans (hb1.mono HB.out.size)⟩
set_option maxRecDepth 100000 in
set_option maxHeartbeats 2000000 in
theorem reads_mid (x : ByteArray) (w : World) (s : Nat → Addr) (hO : OldR w s) (hm : x.size ≤ maxLen) (h1 : 1500 < x.size) (h2 : x.size ≠ 20001) :
    Calls Tryz.prog 3 #[.string x] w fun e w' => e = .returned (.bool true) ∧ Below w.heap.size w w' := by
  have ht := stocked_any w s hO.old6.old
  unfold maxLen at hm
  have HT : Hid (Calls Tryz.prog 6 _ _ _) := ht
  have h3 : ((x.size : Int) == 20001) = false := by simp; omega
  clear ht hO h2
  go_enter Tryz.func3, Tryz.ntmps3
  go_wp2_with (go_at_call 6; refine HT.out.mono ?_; rintro e w1 ⟨rfl, hb⟩)
  go_ret
  exact ⟨rfl, hb⟩
set_option maxRecDepth 100000 in
set_option maxHeartbeats 4000000 in
theorem reads_long (x : ByteArray) (w : World) (s : Nat → Addr) (hO : OldR w s) (h2 : x.size = 20001) :
    Calls Tryz.prog 3 #[.string x] w fun e w' => e = .returned (.bool true) ∧ Below w.heap.size w w' := by
  have ht := stocked_any w s hO.old6.old
  have hr := fun w1 (hb : Below w.heap.size w w1) => kread_long x w1 s (by omega) (by unfold maxLen; omega) (hO.old6.six.below hb)
  have hq := fun w1 => rstock_long x w1 (by omega) (by unfold maxLen; omega)
  have hf : ∀ w1, Below w.heap.size w w1 → Calls Tryz.prog 9 #[err (s 1), .agg #[.int .i64 2, .int .i64 (-1)]] w1 fun e w' => e = .returned (.bool true) ∧ Below w1.heap.size w1 w' := fun w1 hb =>
    faulted_of (err (s 1)) 2 (-1) w1 (by decide) fun w2 hb2 => by
      have := code_sent 1 (by decide) w2 s (hO.sent.below (hb.trans (hb2.mono hb.size))) (hO.handle.below (hb.trans (hb2.mono hb.size)))
      exact this
  have h3 : (x.size : Int) = 20001 := by omega
  have HT : Hid (Calls Tryz.prog 6 _ _ _) := ht
  clear ht hO
  go_enter Tryz.func3, Tryz.ntmps3
  go_wp2_with (first
    | (go_at_call 6; refine HT.out.mono ?_; rintro e w1 ⟨rfl, hb1⟩)
    | (go_at_call 7; refine (hr _ hb1).mono ?_; rintro e w2 ⟨rfl, hb2⟩; have hbw2 := hb1.trans (hb2.mono hb1.size))
    | (go_at_call 8; refine (hq _).mono ?_; rintro e w3 ⟨rfl, hb3⟩; have hbw3 := hbw2.trans (hb3.mono hbw2.size); have hbw5 := (hbw3.alloc hbw3.size (.cells #[.slice none 0 0] 30)).alloc (by have := hbw3.size; simp; omega) (.cells #[.int .i64 2, .int .i64 (-1)] 32))
    | (go_at_call 9; refine (hf _ hbw5).mono ?_; rintro e w6 ⟨rfl, hb6⟩))
  go_ret
  exact ⟨rfl, hbw5.trans (hb6.mono hbw5.size)⟩
theorem readS_le : ∀ (n : Nat) (l : List UInt8) (m : List Ln) (i : Nat), l.length ≤ n → (readS m i (splitL 10 l)).2.1 ≤ 12
  | n, l, m, i, hn => by
    cases hh : has 10 l with
    | false =>
      rw [split_none hh, readS_last]
      split <;> simp
    | true =>
      rw [split_some hh, readS_step _ _ _ (split_pos 10 _)]
      split
      · have hlt := pre_length_lt 10 l hh
        have hpl : (post 10 l).length < l.length := by rw [← drop_pre, List.length_drop]; omega
        cases n with
        | zero => omega
        | succ n => exact readS_le n _ _ _ (by omega)
      · exact stepE_le m _
set_option maxRecDepth 100000 in
set_option maxHeartbeats 8000000 in
theorem reads_short (x : ByteArray) (w : World) (s : Nat → Addr) (hO : OldR w s) (h1 : x.size ≤ 1500) :
    Calls Tryz.prog 3 #[.string x] w fun e w' => e = .returned (.bool true) ∧ Below w.heap.size w w' := by
  have ht := stocked_any w s hO.old6.old
  have hr := fun w1 (hb : Below w.heap.size w w1) => kread_in x w1 s (by omega) (hO.old6.six.below hb)
  have hq := fun w1 => rstock_in x w1 (by omega)
  have hle := readS_le x.size x.data.toList [] 0 (by rw [size_len]; exact Nat.le_refl _)
  have htx := readS_text x.size x.data.toList [] 0 (by rw [size_len]; exact Nat.le_refl _) Wf.nil
  have HO : Hid (∀ w1, Below w.heap.size w w1 → OldR w1 s) := fun w1 hb => hO.below hb
  have HT : Hid (Calls Tryz.prog 6 _ _ _) := ht
  generalize readS [] 0 (splitL 10 x.data.toList) = R at *
  clear ht hO
  obtain ⟨m, c, k⟩ := R
  simp only at hle htx
  by_cases hc : c = 0
  · subst hc
    obtain ⟨hw, hte⟩ := htx rfl
    have hxt : txt m = x := by
      unfold txt
      rw [hte]
      simp [textB]
    have hr' : ∀ w1, Below w.heap.size w w1 → Calls Tryz.prog 7 #[.string x] w1 fun e w' => ∃ p b, e = .returned (.tuple #[.pointer (some ⟨p, 0, none⟩), .nilIface]) ∧ IsStock w' p b m ∧ Below w1.heap.size w1 w' := fun w1 hb => (hr w1 hb).mono fun e w' ⟨hre, hb'⟩ => by
      rcases hre with ⟨_, p, b, he, _, _, hi⟩ | ⟨hne, _⟩
      · exact ⟨p, b, he, hi, hb'⟩
      · exact absurd rfl hne
    have hq' : ∀ w1, Calls Tryz.prog 8 #[.string x] w1 fun e w' => ∃ ao kv cv, e = .returned (.tuple #[.agg #[.slice ao kv cv], .agg #[.int .i64 0, .int .i64 (-1)]]) ∧ RefS w' (.slice ao kv cv) m ∧ Below w1.heap.size w1 w' := fun w1 => (hq w1).mono fun e w' ⟨hre, hb'⟩ => by
      rcases hre with ⟨_, v, he, hrf⟩ | ⟨hne, _⟩
      · obtain ⟨ao, kv, cv, rfl⟩ := own_sliceN hrf
        exact ⟨ao, kv, cv, he, hrf, hb'⟩
      · exact absurd rfl hne
    have hA := fun w1 p b v (hi : IsStock w1 p b m) (hrf : RefS w1 v m) (hb : Below w.heap.size w w1) => asStock_any w1 s p b m v hi hrf (HO.out w1 hb).old6
    have hX := fun w1 p b (hi : IsStock w1 p b m) (hb : Below w.heap.size w w1) => lawText (HO.out w1 hb).old6 w1 p b m hi (Below.refl _ _)
    rw [hxt] at hX
    clear hr hq hle htx hw hte hxt
    go_enter Tryz.func3, Tryz.ntmps3
    go_wp2_with (first
      | (go_at_call 6; refine HT.out.mono ?_; rintro e w1 ⟨rfl, hb1⟩)
      | (go_at_call 7; refine (hr' _ hb1).mono ?_; rintro e w2 ⟨p, b, rfl, hi2, hb2⟩; have hbw2 := hb1.trans (hb2.mono hb1.size))
      | (go_at_call 8; refine (hq' _).mono ?_; rintro e w3 ⟨ao, kv, cv, rfl, hrf3, hb3⟩; have hbw3 := hbw2.trans (hb3.mono hbw2.size); have hbx : Below w3.heap.size w3 ((w3.alloc (.cells #[.slice ao kv cv] 30)).alloc (.cells #[.int .i64 0, .int .i64 (-1)] 32)) := (((Below.refl _ _).alloc (Nat.le_refl _) _).alloc (by simp) _); have hbw5 := hbw3.trans (hbx.mono hbw3.size); have hi5 := (hi2.all hb3).all hbx; have hrf5 := hrf3.all hbx)
      | (go_at_call 10; refine (hA _ _ _ _ hi5 hrf5 hbw5).mono ?_; rintro e w6 ⟨rfl, hb6⟩; have hbw6 := hbw5.trans (hb6.mono hbw5.size); have hi6 := hi5.all hb6)
      | (go_at_call 11; refine (hX _ _ _ hi6 hbw6).mono ?_; rintro e w7 ⟨rfl, _, _, hb7⟩))
    go_ret
    exact ⟨rfl, hbw6.trans (hb7.mono hbw6.size)⟩
  · have hr' : ∀ w1, Below w.heap.size w w1 → Calls Tryz.prog 7 #[.string x] w1 fun e w' => ∃ f, e = .returned (.tuple #[.pointer none, .iface 75 (.pointer (some ⟨f, 0, none⟩))]) ∧ w'.cell? ⟨f, 0, none⟩ = some (.int .i64 k) ∧ w'.cell? ⟨f, 1, none⟩ = some (err (s (c - 1))) ∧ Below w1.heap.size w1 w' := fun w1 hb => (hr w1 hb).mono fun e w' ⟨hre, hb'⟩ => by
      rcases hre with ⟨h0, _⟩ | ⟨_, f, he, _, h2, h3⟩
      · exact absurd h0 hc
      · exact ⟨f, he, h2, h3, hb'⟩
    have hq' : ∀ w1, Calls Tryz.prog 8 #[.string x] w1 fun e w' => e = .returned (.tuple #[.agg #[.slice none 0 0], .agg #[.int .i64 c, .int .i64 k]]) ∧ Below w1.heap.size w1 w' := fun w1 => (hq w1).mono fun e w' ⟨hre, hb'⟩ => by
      rcases hre with ⟨h0, _⟩ | ⟨_, he⟩
      · exact absurd h0 hc
      · exact ⟨he, hb'⟩
    have hf : ∀ w1 f, Below w.heap.size w w1 → w1.cell? ⟨f, 0, none⟩ = some (.int .i64 k) → w1.cell? ⟨f, 1, none⟩ = some (err (s (c - 1))) → Calls Tryz.prog 9 #[.iface 75 (.pointer (some ⟨f, 0, none⟩)), .agg #[.int .i64 c, .int .i64 k]] w1 fun e w' => e = .returned (.bool true) ∧ Below w1.heap.size w1 w' := fun w1 f hb h2 h3 =>
      faulted_of _ c k w1 (by omega) fun w2 hb2 => by
        have hO2 := HO.out w2 (hb.trans (hb2.mono hb.size))
        have := code_fault_sent f 0 k (c - 1) (by omega) w2 s hO2.sent hO2.handle ((hb2.cell (p := ⟨f, 0, none⟩) (cell_lt h2)).trans h2) ((hb2.cell (p := ⟨f, 1, none⟩) (cell_lt h3)).trans h3)
        rw [show c - 1 + 1 = c by omega] at this
        exact this
    have hpe : (0 : Int) < (c : Int) := by omega
    clear hr hq hle htx hc
    go_enter Tryz.func3, Tryz.ntmps3
    go_wp2_with (first
      | (go_at_call 6; refine HT.out.mono ?_; rintro e w1 ⟨rfl, hb1⟩)
      | (go_at_call 7; refine (hr' _ hb1).mono ?_; rintro e w2 ⟨f, rfl, hf0, hf1, hb2⟩; have hbw2 := hb1.trans (hb2.mono hb1.size))
      | (go_at_call 8; refine (hq' _).mono ?_; rintro e w3 ⟨rfl, hb3⟩; have hbw3 := hbw2.trans (hb3.mono hbw2.size); have hbx : Below w3.heap.size w3 ((w3.alloc (.cells #[.slice none 0 0] 30)).alloc (.cells #[.int .i64 c, .int .i64 k] 32)) := (((Below.refl _ _).alloc (Nat.le_refl _) _).alloc (by simp) _); have hbw5 := hbw3.trans (hbx.mono hbw3.size); have g0 := ((hb3.cell (p := ⟨f, 0, none⟩) (cell_lt hf0)).trans hf0); have g1 := ((hb3.cell (p := ⟨f, 1, none⟩) (cell_lt hf1)).trans hf1); have i0 := ((hbx.cell (p := ⟨f, 0, none⟩) (cell_lt g0)).trans g0); have i1 := ((hbx.cell (p := ⟨f, 1, none⟩) (cell_lt g1)).trans g1))
      | (go_at_call 9; refine (hf _ _ hbw5 i0 i1).mono ?_; rintro e w6 ⟨rfl, hb6⟩))
    go_ret
    exact ⟨rfl, hbw5.trans (hb6.mono hbw5.size)⟩
/-- StockReads. -/
theorem reads_any (x : ByteArray) (w : World) (s : Nat → Addr) (hO : OldR w s) (hm : x.size ≤ maxLen) :
    Calls Tryz.prog 3 #[.string x] w fun e w' => e = .returned (.bool true) ∧ Below w.heap.size w w' := by
  by_cases h1 : x.size ≤ 1500
  · exact reads_short x w s hO h1
  · by_cases h2 : x.size = 20001
    · exact reads_long x w s hO h2
    · exact reads_mid x w s hO hm (by omega) h2
end Go.Proofs.YtcipbkaopnaiiabGreatDoor
