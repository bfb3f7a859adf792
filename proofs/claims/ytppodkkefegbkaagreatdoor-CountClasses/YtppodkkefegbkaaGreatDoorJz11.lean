/-
  A book stays well, whatever the entry.
-/
import Derived.Test.YtppodkkefegbkaaGreatDoorJz9
import Derived.Test.YtppodkkefegbkaaGreatDoorJz10
import Derived.BigQuiet
import Derived.ProofKit
import Derived.OpenShut
import Derived.Stop.Joined
import Derived.Lib.SmallJoins
import Derived.Deep.Slices
set_option maxRecDepth 100000
set_option maxHeartbeats 16000000
namespace Go.Proofs.YtppodkkefegbkaaGreatDoor
open Go.RowKit Go.Lib Go.Sort
theorem BkOk.do_ {b : Bk} (h : BkOk b) (e : En) : BkOk (doB b e).1 := by
  by_cases he : entErr e = 0
  · by_cases h1 : e.1 = kGoods
    · rw [doB_goods he h1]
      split
      · rename_i h0; exact h.goods h0
      · exact h
    by_cases h2 : e.1 = kLot
    · rw [doB_lot he h2]
      split
      · rename_i h0; exact h.lot h0
      · exact h
    rcases findI_cases nameL b.2.1 e.2.2.1.1 with ⟨h9, _⟩ | ⟨k, l, hkL, hl, hid⟩
    · rw [doB_none he h1 h2 (by omega)]; exact h
    · obtain ⟨g0, hg0, hg1⟩ := h.wf.lots l (List.mem_of_getElem? hl)
      rcases findI_cases nameG b.1 l.1.2.1 with ⟨_, h8⟩ | ⟨i, g, hiG, hg, _⟩
      · exact absurd hg1 (h8 g0 hg0)
      · rw [doB_at he h1 h2 hkL hl hiG hg]
        split
        · rename_i h0
          exact h.piece (by have := (piece_num he h1 h2).1; omega) hl hid hg h0
        · exact h
  · rw [doB_err he]; exact h
theorem doB_le (b : Bk) (e : En) : (doB b e).2 ≤ 12 := by
  by_cases he : entErr e = 0
  · unfold doB
    rw [if_pos he]
    have hp : ∀ l g, pieceE b e l g ≤ 12 := fun l g => by
      unfold pieceE
      have h1 : stkE e b.2.2 ≤ 12 := by
        unfold stkE
        cases kd e.1 with
        | tow => exact putE_le _ _ _ _
        | frm => exact takeE_le _ _ _
        | move => exact moveE_le _ _ _ _ _
        | _ => exact Nat.zero_le _
      repeat' split
      all_goals omega
    have hg : goodsE b e.2.1 ≤ 12 := by unfold goodsE; repeat' split
                                        all_goals omega
    have hl : lotBE b e.2.2.1 ≤ 12 := by unfold lotBE; repeat' split
                                         all_goals omega
    repeat' split
    all_goals first | exact hg | exact hl | exact hp _ _ | (show (0 : Nat) ≤ 12; omega) | (show (6 : Nat) ≤ 12; omega)
  · rw [doB_err he]; exact entErr_le e
structure EntO (w : World) (q o : Nat) (e : En) : Prop where
  c0 : w.cell? ⟨q, o, none⟩ = some (.string e.1)
  c1 : w.cell? ⟨q, o + 1, none⟩ = some (.string e.2.1.1)
  c2 : w.cell? ⟨q, o + 2, none⟩ = some (.int .i64 e.2.1.2)
  c3 : w.cell? ⟨q, o + 3, none⟩ = some (.string e.2.2.1.1)
  c4 : w.cell? ⟨q, o + 4, none⟩ = some (.string e.2.2.1.2.1)
  c5 : w.cell? ⟨q, o + 5, none⟩ = some (.int .i64 e.2.2.1.2.2.1)
  c6 : w.cell? ⟨q, o + 6, none⟩ = some (.int .i64 e.2.2.1.2.2.2)
  c7 : w.cell? ⟨q, o + 7, none⟩ = some (.string e.2.2.2.1.1)
  c8 : w.cell? ⟨q, o + 8, none⟩ = some (.int .i64 e.2.2.2.1.2.1)
  c9 : w.cell? ⟨q, o + 9, none⟩ = some (.int .i64 e.2.2.2.1.2.2)
  c10 : w.cell? ⟨q, o + 10, none⟩ = some (.string e.2.2.2.2.1.1)
  c11 : w.cell? ⟨q, o + 11, none⟩ = some (.int .i64 e.2.2.2.2.1.2.1)
  c12 : w.cell? ⟨q, o + 12, none⟩ = some (.int .i64 e.2.2.2.2.1.2.2)
  c13 : w.cell? ⟨q, o + 13, none⟩ = some (.int .i64 e.2.2.2.2.2)
theorem EntO.of_block {w w' : World} {q o : Nat} {e : En} (h : EntO w q o e) (hb : w'.heap[q]? = w.heap[q]?) : EntO w' q o e where
  c0 := (World.cell?_of_block (a := ⟨q, o, none⟩) hb).trans h.c0
  c1 := (World.cell?_of_block (a := ⟨q, o + 1, none⟩) hb).trans h.c1
  c2 := (World.cell?_of_block (a := ⟨q, o + 2, none⟩) hb).trans h.c2
  c3 := (World.cell?_of_block (a := ⟨q, o + 3, none⟩) hb).trans h.c3
  c4 := (World.cell?_of_block (a := ⟨q, o + 4, none⟩) hb).trans h.c4
  c5 := (World.cell?_of_block (a := ⟨q, o + 5, none⟩) hb).trans h.c5
  c6 := (World.cell?_of_block (a := ⟨q, o + 6, none⟩) hb).trans h.c6
  c7 := (World.cell?_of_block (a := ⟨q, o + 7, none⟩) hb).trans h.c7
  c8 := (World.cell?_of_block (a := ⟨q, o + 8, none⟩) hb).trans h.c8
  c9 := (World.cell?_of_block (a := ⟨q, o + 9, none⟩) hb).trans h.c9
  c10 := (World.cell?_of_block (a := ⟨q, o + 10, none⟩) hb).trans h.c10
  c11 := (World.cell?_of_block (a := ⟨q, o + 11, none⟩) hb).trans h.c11
  c12 := (World.cell?_of_block (a := ⟨q, o + 12, none⟩) hb).trans h.c12
  c13 := (World.cell?_of_block (a := ⟨q, o + 13, none⟩) hb).trans h.c13
structure Ents (w : World) (q o : Nat) (l : List En) : Prop where
  lt : q < w.heap.size
  at_ : ∀ k e, l[k]? = some e → EntO w q (o + k * 14) e
theorem Ents.below {w w' : World} {B q o : Nat} {l : List En} (h : Ents w q o l) (hB : q < B) (hb : Below B w w') : Ents w' q o l :=
  ⟨Nat.lt_of_lt_of_le h.lt hb.size, fun k e hk => (h.at_ k e hk).of_block (hb.block q hB)⟩
def encGs : Enc Gs where
  k := 6
  enc g := [.string g.1.1, .int .i64 g.1.2, .int .i64 g.2.1, .int .i64 g.2.2.1, .int .i64 g.2.2.2.1, .int .i64 g.2.2.2.2]
  len _ := rfl
  one g v hv := by simp at hv; rcases hv with rfl | rfl | rfl | rfl | rfl | rfl <;> rfl
def encLh : Enc Lh where
  k := 5
  enc l := [.string l.1.1, .string l.1.2.1, .int .i64 l.1.2.2.1, .int .i64 l.1.2.2.2, .int .i64 l.2]
  len _ := rfl
  one l v hv := by simp at hv; rcases hv with rfl | rfl | rfl | rfl | rfl <;> rfl
def encLn : Enc Ln where
  k := 5
  enc l := [.string l.1.1, .int .i64 l.1.2.1, .int .i64 l.1.2.2, .string l.2.1, .int .i64 l.2.2]
  len _ := rfl
  one l v hv := by simp at hv; rcases hv with rfl | rfl | rfl | rfl | rfl <;> rfl
def RefB (w : World) (B q : Nat) (b : Bk) : Prop := ∃ vG vL vS, w.heap[q]? = some (.cells #[vG, vL, vS] 78 (0, 0)) ∧ encGs.Row w B 120 vG b.1 ∧ encLh.Row w B 131 vL b.2.1 ∧ encLn.Row w 0 48 vS b.2.2 ∧ B ≤ q
theorem RefB.below {w w' : World} {B q : Nat} {b : Bk} (h : RefB w B q b) (hb : Below w.heap.size w w') : RefB w' B q b := by
  obtain ⟨vG, vL, vS, h1, h2, h3, h4, h5⟩ := h
  exact ⟨vG, vL, vS, (hb.block q (Array.getElem?_eq_some_iff.1 h1).1).trans h1, h2.below hb, h3.below hb, h4.below hb, h5⟩
theorem findG_any (w : World) (B q : Nat) (b : Bk) (c : ByteArray) (h : RefB w B q b) (h200 : b.1.length ≤ 1000) :
    Calls Tryz.prog 61 #[.pointer (some ⟨q, 0, none⟩), .string c] w fun e w' => e = .returned (.int .i64 (findI nameG b.1 c)) ∧ w' = w := by
  obtain ⟨vG, vL, vS, hblk, hG, hL, hS, hq⟩ := h
  have hv : w.cell? ⟨q, 0, none⟩ = some vG := by rw [cell_of_heap hblk]; rfl
  rcases hG.forms with ⟨rfl, hm⟩ | ⟨g, cap, rfl, -, hg, hcap, -, hrow⟩
  · rw [hm]
    clear hblk hG hL hS hm
    go_enter Tryz.func61, Tryz.ntmps61
    go_wp2
    refine wp_loop_rounds 1 ?_
    rw [rounds_succ]
    go_wp2
    go_ret
    exact ⟨rfl, rfl⟩
  · generalize hlm : b.1 = m at *
    clear hblk hG hL hS hlm
    generalize hln : m.length = ln at *
    have HN : Hid (ln = m.length) := hln.symm
    clear hln hcap
    have HR : Hid (∀ i x k, m[i]? = some x → k < encGs.k → w.cell? ⟨g, i * encGs.k + k, none⟩ = (encGs.enc x)[k]?) := hrow
    clear hrow
    go_enter Tryz.func61, Tryz.ntmps61
    go_wp2
    go_loopw [5] (fun i wr => ∃ k : Nat, k ≤ ln ∧ i = .int .i64 k ∧ wr = w ∧ ∀ x ∈ m.take k, x.1.1 ≠ c) (fun i _ => ln - (RowKit.intOf i).toNat)
    case atStart => exact ⟨0, Nat.zero_le _, rfl, rfl, by simp⟩
    case round =>
      obtain ⟨k, hk, rfl, rfl, hno⟩ := hrel
      have HNo : Hid (∀ x ∈ m.take k, x.1.1 ≠ c) := hno
      clear hno
      by_cases hlt : k < ln
      · have hkm : k < m.length := by rw [← HN.out]; exact hlt
        obtain ⟨x, hx⟩ : ∃ x, m[k]? = some x := ⟨_, List.getElem?_eq_getElem hkm⟩
        have HX : Hid (m[k]? = some x) := hx
        have c0 : wr.cell? ⟨g, k * 6, none⟩ = some (.string x.1.1) := (HR.out k x 0 hx (by decide)).trans rfl
        clear hx hkm
        generalize hy : x.1.1 = y at *
        have HY : Hid (x.1.1 = y) := hy
        clear hy
        have e3 := same_eq y c
        by_cases hc : y = c
        · rw [decide_eq_true hc] at e3
          go_wp2
          go_ret
          exact ⟨by rw [findI_at (f := nameG) HX.out (HY.out.trans hc) HNo.out]; rfl, by first | rfl | trivial⟩
        · rw [decide_eq_false hc] at e3
          have HK : Hid (x.1.1 ≠ c) := fun e => hc (HY.out.symm.trans e)
          clear hc
          go_wp2
          go_roundw
          case rel => exact ⟨k + 1, by omega, by go_num, by first | rfl | trivial, takeI_next HX.out HNo.out HK.out⟩
          case measure => simp [RowKit.intOf]; omega
      · have e : m.take k = m := List.take_of_length_le (by rw [← HN.out]; omega)
        have HE : Hid (∀ x ∈ m, x.1.1 ≠ c) := fun x hx => HNo.out x (by rw [e]; exact hx)
        clear e
        go_wp2
        go_ret
        exact ⟨by rw [findI_none (f := nameG) HE.out]; rfl, by first | rfl | trivial⟩
theorem findL_any (w : World) (B q : Nat) (b : Bk) (c : ByteArray) (h : RefB w B q b) (h200 : b.2.1.length ≤ 1000) :
    Calls Tryz.prog 51 #[.pointer (some ⟨q, 0, none⟩), .string c] w fun e w' => e = .returned (.int .i64 (findI nameL b.2.1 c)) ∧ w' = w := by
  obtain ⟨vG, vL, vS, hblk, hG, hL, hS, hq⟩ := h
  have hv : w.cell? ⟨q, 1, none⟩ = some vL := by rw [cell_of_heap hblk]; rfl
  rcases hL.forms with ⟨rfl, hm⟩ | ⟨g, cap, rfl, -, hg, hcap, -, hrow⟩
  · rw [hm]
    clear hblk hG hL hS hm
    go_enter Tryz.func51, Tryz.ntmps51
    go_wp2
    refine wp_loop_rounds 1 ?_
    rw [rounds_succ]
    go_wp2
    go_ret
    exact ⟨rfl, rfl⟩
  · generalize hlm : b.2.1 = m at *
    clear hblk hG hL hS hlm
    generalize hln : m.length = ln at *
    have HN : Hid (ln = m.length) := hln.symm
    clear hln hcap
    have HR : Hid (∀ i x k, m[i]? = some x → k < encLh.k → w.cell? ⟨g, i * encLh.k + k, none⟩ = (encLh.enc x)[k]?) := hrow
    clear hrow
    go_enter Tryz.func51, Tryz.ntmps51
    go_wp2
    go_loopw [5] (fun i wr => ∃ k : Nat, k ≤ ln ∧ i = .int .i64 k ∧ wr = w ∧ ∀ x ∈ m.take k, x.1.1 ≠ c) (fun i _ => ln - (RowKit.intOf i).toNat)
    case atStart => exact ⟨0, Nat.zero_le _, rfl, rfl, by simp⟩
    case round =>
      obtain ⟨k, hk, rfl, rfl, hno⟩ := hrel
      have HNo : Hid (∀ x ∈ m.take k, x.1.1 ≠ c) := hno
      clear hno
      by_cases hlt : k < ln
      · have hkm : k < m.length := by rw [← HN.out]; exact hlt
        obtain ⟨x, hx⟩ : ∃ x, m[k]? = some x := ⟨_, List.getElem?_eq_getElem hkm⟩
        have HX : Hid (m[k]? = some x) := hx
        have c0 : wr.cell? ⟨g, k * 5, none⟩ = some (.string x.1.1) := (HR.out k x 0 hx (by decide)).trans rfl
        clear hx hkm
        generalize hy : x.1.1 = y at *
        have HY : Hid (x.1.1 = y) := hy
        clear hy
        have e3 := same_eq y c
        by_cases hc : y = c
        · rw [decide_eq_true hc] at e3
          go_wp2
          go_ret
          exact ⟨by rw [findI_at (f := nameL) HX.out (HY.out.trans hc) HNo.out]; rfl, by first | rfl | trivial⟩
        · rw [decide_eq_false hc] at e3
          have HK : Hid (x.1.1 ≠ c) := fun e => hc (HY.out.symm.trans e)
          clear hc
          go_wp2
          go_roundw
          case rel => exact ⟨k + 1, by omega, by go_num, by first | rfl | trivial, takeI_next HX.out HNo.out HK.out⟩
          case measure => simp [RowKit.intOf]; omega
      · have e : m.take k = m := List.take_of_length_le (by rw [← HN.out]; omega)
        have HE : Hid (∀ x ∈ m, x.1.1 ≠ c) := fun x hx => HNo.out x (by rw [e]; exact hx)
        clear e
        go_wp2
        go_ret
        exact ⟨by rw [findI_none (f := nameL) HE.out]; rfl, by first | rfl | trivial⟩
end Go.Proofs.YtppodkkefegbkaaGreatDoor
namespace Go.Proofs.YtppodkkefegbkaaGreatDoor
open Go.RowKit Go.Lib Go.Sort
variable {α : Type}
theorem Enc.Row.shape {E : Enc α} {w : World} {B : Nat} {T : TypeId} {v : Value} {m : List α} (h : E.Row w B T v m) : ∃ a c, v = .slice a m.length c := by
  rcases h.forms with ⟨rfl, rfl⟩ | ⟨g, cap, rfl, _⟩
  · exact ⟨none, 0, rfl⟩
  · exact ⟨_, _, rfl⟩
theorem Enc.Row.grown {E : Enc α} {w w' : World} {B : Nat} {T : TypeId} {v : Value} {m : List α} {r : Option Nat} (h : E.Row w B T v m) (hg : w.grownBy w' r) (hne : ∀ k, v.ownBlock = some k → some k ≠ r) : E.Row w' B T v m :=
  h.kept fun g hgb => hg.block g (h.lt hgb).2 (hne g hgb)
theorem Enc.Row.news {E : Enc α} {w : World} {B : Nat} {T : TypeId} {g cap : Nat} {m : List α} (h : E.Row w B T (.slice (some ⟨g, 0, none⟩) m.length cap) m) (a n o : Nat) (ha : a + n ≤ m.length) (ho : n = 0 ∨ o = a * E.k) :
    ∀ j u, (E.flat ((m.drop a).take n))[j]? = some u → w.cell? ((⟨g, o, none⟩ : Addr).add j) = some u := fun j u hu => by
  have hl : (E.flat ((m.drop a).take n)).length = n * E.k := by rw [E.flat_len, List.length_take, List.length_drop]; congr 1; omega
  have hj : j < n * E.k := by rw [← hl]; exact (List.getElem?_eq_some_iff.1 hu).1
  have hn : n ≠ 0 := fun e => by subst e; simp at hj
  have ho' : o = a * E.k := ho.resolve_left hn
  have hadd : (⟨g, o, none⟩ : Addr).add j = ⟨g, o + j, none⟩ := by unfold Addr.add; split <;> simp_all
  have hlt : a * E.k + j < m.length * E.k := by
    have : (a + n) * E.k ≤ m.length * E.k := Nat.mul_le_mul_right _ ha
    rw [Nat.add_mul] at this
    omega
  rw [hadd, ho', World.ownsRow.cellAt h (a * E.k + j) hlt]
  have e1 : E.flat ((m.drop a).take n) = ((E.flat m).drop (a * E.k)).take (n * E.k) := by
    rw [E.flat_drop m a (by omega), E.flat_take _ n (by rw [List.length_drop]; omega)]
  rw [e1, List.getElem?_take, if_pos hj, List.getElem?_drop] at hu
  exact hu
theorem Enc.news_len (E : Enc α) (m : List α) (a n : Nat) (ha : a + n ≤ m.length) : (E.flat ((m.drop a).take n)).length = n * E.k := by
  rw [E.flat_len, List.length_take, List.length_drop]; congr 1; omega
theorem Enc.Row.apart {E : Enc α} {w : World} {B q : Nat} {T T' : TypeId} {v : Value} {m : List α} {cs : Array Value} {fr : Nat × Nat} (h : E.Row w B T v m) (hq : w.heap[q]? = some (.cells cs T' fr)) (hT : T ≠ T') : ∀ g, v.ownBlock = some g → g ≠ q := fun g hg e => by
  subst e
  rcases h.2 with ⟨h1, _⟩ | ⟨g', cap, cur, hv, _, hg', _⟩
  · rw [h1] at hg; cases hg
  · rw [hv] at hg
    have e : g' = g := by simpa [Value.ownBlock] using hg
    subst e
    rw [hq] at hg'
    injection hg' with hg'
    injection hg' with _ h2 _
    exact hT h2.symm
theorem Enc.Row.setOther {E : Enc α} {w : World} {B q i : Nat} {T : TypeId} {v : Value} {m : List α} (h : E.Row w B T v m) (hq : ∀ g, v.ownBlock = some g → g ≠ q) (x : Value) : E.Row (w.setCell ⟨q, i, none⟩ x) B T v m :=
  h.kept fun g hg => Below.heap_setCell w ⟨q, i, none⟩ x g (hq g hg)
theorem RefB.setG {w : World} {B q : Nat} {b : Bk} {vG vL vS v : Value} {m : List Gs} (hb : w.heap[q]? = some (.cells #[vG, vL, vS] 78 (0, 0))) (h : encGs.Row w B 120 v m) (hL : encLh.Row w B 131 vL b.2.1) (hS : encLn.Row w 0 48 vS b.2.2) (hq : B ≤ q) : RefB (w.setCell ⟨q, 0, none⟩ v) B q (m, b.2.1, b.2.2) :=
  ⟨v, vL, vS, set_cell hb 0 v rfl, h.setOther (h.apart hb (by decide)) _, hL.setOther (hL.apart hb (by decide)) _, hS.setOther (hS.apart hb (by decide)) _, hq⟩
theorem RefB.setL {w : World} {B q : Nat} {b : Bk} {vG vL vS v : Value} {m : List Lh} (hb : w.heap[q]? = some (.cells #[vG, vL, vS] 78 (0, 0))) (h : encLh.Row w B 131 v m) (hG : encGs.Row w B 120 vG b.1) (hS : encLn.Row w 0 48 vS b.2.2) (hq : B ≤ q) : RefB (w.setCell ⟨q, 1, none⟩ v) B q (b.1, m, b.2.2) :=
  ⟨vG, v, vS, set_cell hb 1 v rfl, hG.setOther (hG.apart hb (by decide)) _, h.setOther (h.apart hb (by decide)) _, hS.setOther (hS.apart hb (by decide)) _, hq⟩
end Go.Proofs.YtppodkkefegbkaaGreatDoor
namespace Go.Proofs.YtppodkkefegbkaaGreatDoor
open Go.Lib Go.Sort
end Go.Proofs.YtppodkkefegbkaaGreatDoor
namespace Go.Proofs.YtppodkkefegbkaaGreatDoor
open Go.RowKit Go.Lib Go.Sort
def bkTo (l : List En) : Nat → Bk
  | 0 => ([], [], [])
  | k + 1 => match l[k]? with
    | some e => (doB (bkTo l k) e).1
    | none => bkTo l k
theorem bkTo_succ {l : List En} {k : Nat} {e : En} (h : l[k]? = some e) : bkTo l (k + 1) = (doB (bkTo l k) e).1 := by
  show (match l[k]? with | some e => (doB (bkTo l k) e).1 | none => bkTo l k) = _
  rw [h]
theorem bkTo_ok (l : List En) : ∀ k, BkOk (bkTo l k)
  | 0 => BkOk.nil
  | k + 1 => by
    cases h : l[k]? with
    | none =>
      have e : bkTo l (k + 1) = bkTo l k := by
        show (match l[k]? with | some e => (doB (bkTo l k) e).1 | none => bkTo l k) = _
        rw [h]
      rw [e]; exact bkTo_ok l k
    | some e => rw [bkTo_succ h]; exact (bkTo_ok l k).do_ e
end Go.Proofs.YtppodkkefegbkaaGreatDoor
namespace Go.Proofs.YtppodkkefegbkaaGreatDoor
open Go.Lib Go.Sort
variable {α : Type}
end Go.Proofs.YtppodkkefegbkaaGreatDoor
namespace Go.Proofs.YtppodkkefegbkaaGreatDoor
open Go.Joins Go.Deep
open Go.Sort Go.Lib
open Go.ChangeMaps (open_string shut_string)
open Go.ChangeShapes Go.WideShapes Go.ChangeAt Go.WideMaps Go.WideElems Go.RowKit
def encEn (e : En) : List Value := [.string e.1, .string e.2.1.1, .int .i64 e.2.1.2, .string e.2.2.1.1, .string e.2.2.1.2.1, .int .i64 e.2.2.1.2.2.1, .int .i64 e.2.2.1.2.2.2, .string e.2.2.2.1.1, .int .i64 e.2.2.2.1.2.1, .int .i64 e.2.2.2.1.2.2, .string e.2.2.2.2.1.1, .int .i64 e.2.2.2.2.1.2.1, .int .i64 e.2.2.2.2.1.2.2, .int .i64 e.2.2.2.2.2]
theorem open_ent_cells {H : Type} {enc : TypeId × Value → H} {W : World} {base n : Nat} {cs : List Value} {x : DataW H × List MemPlace} {sp : Nat → Bool} {hd : Bool} (hl : cs.length = 14) (h : DataW.trod enc Tryz.prog W base sp hd n 43 cs = some x) :
    ∃ e : En, cs = encEn e ∧ SzE e := by
  match cs, hl with
  | [c0, c1, c2, c3, c4, c5, c6, c7, c8, c9, c10, c11, c12, c13], _ =>
    obtain ⟨xs, m, _, _, _, hlen, hg⟩ := DataW.trod_struct Tryz.underlying43 h
    match xs, hlen with
    | [y0, y1, y2, y3, y4, y5], _ =>
      have h0 := hg 0 _ rfl
      have h1 := hg 1 _ rfl
      have h2 := hg 2 _ rfl
      have h3 := hg 3 _ rfl
      have h4 := hg 4 _ rfl
      have h5 := hg 5 _ rfl
      simp [Tryz.cStr, Tryz.cInt, Tryz.cPla, Tryz.cGoo, Tryz.cLot] at h0 h1 h2 h3 h4 h5
      obtain ⟨k, e0, _, wk⟩ := DataW.trod_string Tryz.underlying9 h0
      obtain ⟨g, g0, g1, wg⟩ := open_gd h1
      obtain ⟨o, o0, o1, o2, o3, wo0, wo1⟩ := open_lo h2
      obtain ⟨f, f0, f1, f2, wf⟩ := open_pl h3
      obtain ⟨t, t0, t1, t2, wt⟩ := open_pl h4
      obtain ⟨n, e5, _, wn⟩ := DataW.trod_int Tryz.underlying3 h5
      simp at e0 e5
      subst e0 e5 g0 g1 o0 o1 o2 o3 f0 f1 f2 t0 t1 t2
      exact ⟨(k, g, o, f, t, n), rfl, ⟨wk, wg, wo0, wo1, wf, wt⟩⟩
theorem open_ents {H : Type} {enc : TypeId × Value → H} {W : World} {b0 : Nat} {v : Value} {dd : DataW H} {ps : List MemPlace} {sp : Nat → Bool} {hd : Bool} (hv : Value.okWide Tryz.prog W .any b0 22 v) (h : DataW.Trod enc Tryz.prog W 0 sp hd 22 v dd ps) :
    (∃ ad c, v = .slice ad 0 c) ∨ ∃ b off c l, 1 ≤ l.length ∧ l.length ≤ maxLen ∧ v = .slice (some ⟨b, off, none⟩) l.length c ∧ Ents W b off l ∧ ∀ e ∈ l, SzE e := by
  obtain ⟨a0, len, cap, rfl⟩ := okWide_slice Tryz.underlying22 hv
  obtain ⟨fuel, hf⟩ := h
  rcases open_slice Tryz.underlying22 hf with ⟨hcs, _⟩ | ⟨a, len', cap', m, n, D, Pq, hcs, _, hl, hm, hmm, _, hx⟩
  · simp [Value.cells] at hcs
    obtain ⟨rfl, rfl, rfl⟩ := hcs
    exact Or.inl ⟨none, 0, rfl⟩
  · simp [Value.cells] at hcs
    obtain ⟨rfl, rfl, rfl⟩ := hcs
    rcases Nat.eq_zero_or_pos len with rfl | hpos
    · exact Or.inl ⟨_, _, rfl⟩
    · right
      rw [Tryz.cEnt] at hx
      have hlm : len ≤ m := by rw [hmm]; split <;> omega
      obtain ⟨f, hfq⟩ := choose_lt (α := En) (n := len) (p := fun i e => W.cells? 0 (a.add (i * 14)) 14 = some (encEn e) ∧ SzE e) (fun i hi => by
        obtain ⟨cs', h1, h2⟩ := hx i (by omega)
        obtain ⟨_, hlen, _⟩ := World.cells?_some h1
        obtain ⟨e, rfl, hz⟩ := open_ent_cells hlen h2
        exact ⟨e, h1, hz⟩)
      have hcell : ∀ i c, i < len → c < 14 → W.cell? (a.add (i * 14 + c)) = (encEn (f i))[c]? := by
        intro i c hi hc
        have := (World.cells?_some (hfq i hi).1).2.2 c hc
        rw [add_add] at this
        exact this
      have hsp : a.spot = none := by
        have := World.cell?_spot (hcell 0 0 hpos (by decide))
        simpa [Addr.add] using this
      obtain ⟨b, off, spot⟩ := a
      simp only at hsp
      subst hsp
      have hsz : ((List.range len).map f).length = len := by simp
      have hget : ∀ i e, ((List.range len).map f)[i]? = some e → i < len ∧ e = f i := fun i e he => by
        have hi := (List.getElem?_eq_some_iff.1 he).1
        rw [hsz] at hi
        refine ⟨hi, ?_⟩
        rw [List.getElem?_map, List.getElem?_range hi] at he
        simpa using he.symm
      refine ⟨b, off, cap, (List.range len).map f, by rw [hsz]; exact hpos, by rw [hsz]; omega, by rw [hsz], ⟨?_, ?_⟩, ?_⟩
      · have := hcell 0 0 hpos (by decide)
        rw [WideShapes.add_plain] at this
        exact cell_lt (this.trans rfl)
      · intro k e he
        obtain ⟨hk, rfl⟩ := hget k e he
        have hc : ∀ c, c < 14 → W.cell? ⟨b, off + k * 14 + c, none⟩ = (encEn (f k))[c]? := fun c hc => by
          have := hcell k c hk hc
          rw [WideShapes.add_plain, ← Nat.add_assoc] at this
          exact this
        exact ⟨hc 0 (by decide), hc 1 (by decide), hc 2 (by decide), hc 3 (by decide), hc 4 (by decide), hc 5 (by decide), hc 6 (by decide), hc 7 (by decide), hc 8 (by decide), hc 9 (by decide), hc 10 (by decide), hc 11 (by decide), hc 12 (by decide), hc 13 (by decide)⟩
      · intro e he
        obtain ⟨k, hk⟩ := List.getElem?_of_mem he
        obtain ⟨hk', rfl⟩ := hget k e hk
        exact (hfq k hk').2
end Go.Proofs.YtppodkkefegbkaaGreatDoor
