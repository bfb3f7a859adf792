/-
 The closed fact of the statements on plans: the lot that ends first goes first.
-/
import Derived.Test.YtefkchmahcjleaaGreatDoorJz25
import Derived.Test.YtefkchmahcjleaaGreatDoorJz20
import Derived.Test.YtefkchmahcjleaaGreatDoorQAlM
import Derived.Test.YtefkchmahcjleaaGreatDoorJz17
import Derived.Test.YtefkchmahcjleaaGreatDoorJz43
import Derived.Test.YtefkchmahcjleaaGreatDoorJz23
import Derived.Test.YtefkchmahcjleaaGreatDoorJz32
import Derived.BigQuiet
set_option maxRecDepth 100000
set_option maxHeartbeats 16000000
namespace Go.Proofs.YtefkchmahcjleaaGreatDoor
open Go.RowKit Go.Lib Go.Sort
theorem eqPk_run (x y : Ln) (w : World) : (Op.equalIn 10000 60 (agN x) (agN y)).run Tryz.prog w = .ok (sameN x y) w := by
 have hP := eqP9b_run x.1 y.1
 have HE : Hid (sameN x y = (decide (x.1 = y.1) && (decide (x.2.1 = y.2.1) && decide (x.2.2 = y.2.2)))) := rfl
 have e3 := same_eq x.2.1 y.2.1
 generalize sameN x y = D at *
 generalize decide (x.1 = y.1) = D1 at *
 generalize decide (x.2.1 = y.2.1) = D2 at *
 have h6 : (x.2.2 == y.2.2) = decide (x.2.2 = y.2.2) := rfl
 generalize hD6 : decide (x.2.2 = y.2.2) = D6 at *
 clear hD6
 obtain ⟨⟨a, r, b⟩, c, n⟩ := x
 obtain ⟨⟨a', r', b'⟩, c', n'⟩ := y
 unfold agN
 simp only at hP e3 h6 ⊢
 have u3 := Tryz.underlying3
 have a3 := Tryz.isAgg3
 have z3 := Tryz.sizeOf3
 have u9 := Tryz.underlying9
 have a9 := Tryz.isAgg9
 have z9 := Tryz.sizeOf9
 have a41 := Tryz.isAgg42
 have z41 := Tryz.sizeOf42
 have hS : Tryz.prog.underlying 60 = some (.struct (Tryz.prog.fieldsOf 60)) := by kernel_rfl
 have hp : Tryz.prog.stoodInHeld 60 = false := by kernel_rfl
 rw [show (10000 : Nat) = 9999 + 1 from rfl, run_equalIn_agg w 9999 60 _ _ hS hp]
 simp only [Program.fieldsOf, Tryz.underlying60]
 rw [HE.out]
 clear HE
 cases D1 <;> cases D2 <;> cases D6 <;> go_simp
theorem Tryz.guardPk : Tryz.prog.eqGuardType Tryz.prog.depth 60 = false := by kernel_rfl
def yRye : ByteArray := ⟨#[114, 121, 101]⟩
def yL1 : ByteArray := ⟨#[108, 49]⟩
def yL2 : ByteArray := ⟨#[108, 50]⟩
def yA : Pl := (⟨#[97]⟩, 1, 1)
def yZ : Pl := (⟨#[]⟩, 0, 0)
def plE1 : En := (kGoods, (yRye, 6), zeroLo, yZ, yZ, 0)
def plE2 : En := (kLot, (⟨#[]⟩, 0), (yL1, yRye, 9, 0), yZ, yZ, 0)
def plE3 : En := (kLot, (⟨#[]⟩, 0), (yL2, yRye, 8, 0), yZ, yZ, 0)
def plE4 : En := (kIn, (⟨#[]⟩, 0), (yL1, ⟨#[]⟩, 0, 0), yZ, yA, 7)
def plE5 : En := (kIn, (⟨#[]⟩, 0), (yL2, ⟨#[]⟩, 0, 0), yZ, yA, 4)
def plB1 : Bk := ([((yRye, 6), zeroSu)], [], [])
def plB2 : Bk := ([((yRye, 6), zeroSu)], [((yL1, yRye, 9, 0), 0)], [])
def plB3 : Bk := ([((yRye, 6), zeroSu)], [((yL1, yRye, 9, 0), 0), ((yL2, yRye, 8, 0), 0)], [])
def plB4 : Bk := ([((yRye, 6), (7, 0, 0, 0))], [((yL1, yRye, 9, 0), 0), ((yL2, yRye, 8, 0), 0)], [(yA, yL1, 7)])
def plB5 : Bk := ([((yRye, 6), (11, 0, 0, 0))], [((yL1, yRye, 9, 0), 0), ((yL2, yRye, 8, 0), 0)], [(yA, yL1, 7), (yA, yL2, 4)])
theorem pl1 : doB ([], [], []) plE1 = (plB1, 0) := by kernel_rfl
theorem pl2 : doB plB1 plE2 = (plB2, 0) := by kernel_rfl
theorem pl3 : doB plB2 plE3 = (plB3, 0) := by kernel_rfl
theorem pl4 : doB plB3 plE4 = (plB4, 0) := by kernel_rfl
theorem pl5 : doB plB4 plE5 = (plB5, 0) := by kernel_rfl
theorem pl6 : planE plB5 yRye 5 0 = 0 := by kernel_rfl
theorem pl7 : planL plB5 yRye 5 0 = [(yA, yL2, 4), (yA, yL1, 1)] := by kernel_rfl
theorem plZ1 : SzE plE1 := ⟨by decide, by decide, by decide, by decide, by decide, by decide⟩
theorem plZ2 : SzE plE2 := ⟨by decide, by decide, by decide, by decide, by decide, by decide⟩
theorem plZ3 : SzE plE3 := ⟨by decide, by decide, by decide, by decide, by decide, by decide⟩
theorem plZ4 : SzE plE4 := ⟨by decide, by decide, by decide, by decide, by decide, by decide⟩
theorem plZ5 : SzE plE5 := ⟨by decide, by decide, by decide, by decide, by decide, by decide⟩
structure Pd (w : World) (q : Nat) (x : Bl) (b : Bk) (W : World) : Prop where
 I : IsBk W w.heap.size x b
 P : BoxAt q yA W
 Q : ∀ k ∈ x.all, k < q
 B : Below w.heap.size w W
theorem Pd.do_ {w W : World} {q : Nat} {x : Bl} {b b' : Bk} {e : En} (h : Pd w q x b W) {s : Nat → Addr} (hs : Bs w s) (hz : SzE e) (hd : doB b e = (b', 0)) :
  Calls Tryz.prog 11 #[.pointer (some ⟨x.p, 0, none⟩), agE e] W fun r w' => r = .returned .nilIface ∧ Pd w q x b' w' :=
 (bdo_any W s w.heap.size x b e h.I hz (hs.below h.B)).mono fun r w' ⟨r1, r2, r3⟩ => by
  rw [hd] at r1 r2
  have hk : q ∉ x.all := fun e => Nat.lt_irrefl _ (h.Q q e)
  have hb := r3.block q (cell_lt h.P.c0) hk
  exact ⟨r1, r2, ⟨(World.cell?_of_block (a := ⟨q, 0, none⟩) hb).trans h.P.c0, (World.cell?_of_block (a := ⟨q, 1, none⟩) hb).trans h.P.c1, (World.cell?_of_block (a := ⟨q, 2, none⟩) hb).trans h.P.c2⟩, h.Q, h.B.trans (r3.below h.B.size fun k hk => (h.I.low k hk).1)⟩
theorem planned_any (w : World) (s : Nat → Addr) (hs : Bs w s) (hps : Ps w s) : Calls Tryz.prog 5 #[] w fun e w' => e = .returned (.bool true) ∧ Below w.heap.size w w' := by
 have HN : Hid (Calls Tryz.prog 19 _ _ _) := bnew_any w
 have HP0 : Hid (∀ x w1, IsBk w1 w.heap.size x ([], [], []) → Below w.heap.size w w1 → Pd w w1.heap.size x ([], [], []) (w1.alloc (.cells #[.string ⟨#[97]⟩, .int .i64 1, .int .i64 1] 42))) := fun x w1 h1 h2 => ⟨h1.below ((Below.refl _ _).alloc (Nat.le_refl _) _), BoxAt.new w1 yA _ _ rfl, fun k hk => (h1.low k hk).2, h2.alloc h2.size _⟩
 have H1 : Hid (∀ q x W, Pd w q x ([], [], []) W → Calls Tryz.prog 11 #[.pointer (some ⟨x.p, 0, none⟩), agE plE1] W fun r w' => r = .returned .nilIface ∧ Pd w q x plB1 w') := fun q x W h => h.do_ hs plZ1 pl1
 have H2 : Hid (∀ q x W, Pd w q x plB1 W → Calls Tryz.prog 11 #[.pointer (some ⟨x.p, 0, none⟩), agE plE2] W fun r w' => r = .returned .nilIface ∧ Pd w q x plB2 w') := fun q x W h => h.do_ hs plZ2 pl2
 have H3 : Hid (∀ q x W, Pd w q x plB2 W → Calls Tryz.prog 11 #[.pointer (some ⟨x.p, 0, none⟩), agE plE3] W fun r w' => r = .returned .nilIface ∧ Pd w q x plB3 w') := fun q x W h => h.do_ hs plZ3 pl3
 have H4 : Hid (∀ q x W, Pd w q x plB3 W → Calls Tryz.prog 11 #[.pointer (some ⟨x.p, 0, none⟩), agE plE4] W fun r w' => r = .returned .nilIface ∧ Pd w q x plB4 w') := fun q x W h => h.do_ hs plZ4 pl4
 have H5 : Hid (∀ q x W, Pd w q x plB4 W → Calls Tryz.prog 11 #[.pointer (some ⟨x.p, 0, none⟩), agE plE5] W fun r w' => r = .returned .nilIface ∧ Pd w q x plB5 w') := fun q x W h => h.do_ hs plZ5 pl5
 have HPl : Hid (∀ q x W, Pd w q x plB5 W → Calls Tryz.prog 9 #[.pointer (some ⟨x.p, 0, none⟩), .string yRye, .int .i64 5, .int .i64 0] W fun e w' => ∃ g c, e = .returned (.tuple #[.slice (some ⟨g, 0, none⟩) 2 c, .nilIface]) ∧ LineAt w' g 0 (yA, yL2, 4) ∧ LineAt w' g 5 (yA, yL1, 1) ∧ BoxAt q yA w' ∧ Below w.heap.size w w') := fun q x W h => by
  refine (plan_any yRye 5 0 W s w.heap.size x plB5 h.I (hps.below h.B) (by decide) (by decide)).mono ?_
  rintro e w' ⟨v, rfl, hr, hb⟩
  rw [pl7] at hr
  rw [pl6]
  rcases rowV_of hr with ⟨h1, _⟩ | ⟨g, c, rfl, hg⟩
  ·cases h1
  ·exact ⟨g, c, rfl, hg 0 _ rfl, hg 1 _ rfl, h.P.below hb, h.B.trans (hb.mono h.B.size)⟩
 have hq := fun W => eqPk_run (yA, yL2, 4) (yA, yL2, 4) W
 have hq' := fun W => eqPk_run (yA, yL1, 1) (yA, yL1, 1) W
 have hgd := Tryz.guardPk
 rw [(sameN_iff _ _).2 rfl] at hq hq'
 unfold agN at hq hq'
 unfold agE plE1 at H1
 unfold agE plE2 at H2
 unfold agE plE3 at H3
 unfold agE plE4 at H4
 unfold agE plE5 at H5
 unfold yZ zeroLo at *
 have hA : yA = (⟨#[97]⟩, 1, 1) := rfl
 unfold yRye yL1 yL2 at *
 rw [hA] at hq hq' H4 H5
 simp only at H1 H2 H3 H4 H5 hq hq'
 clear hs hps
 go_enter Tryz.func5, Tryz.ntmps5
 go_wp2_with (first
  | (go_at_call 19; refine HN.out.mono ?_; rintro e w1 ⟨x, rfl, hI1, hb1⟩; have HI1 : Hid (Pd _ _ _ _ _) := HP0.out x w1 hI1 hb1; clear hI1 hb1)
  | (go_at_call_of 11 (Value.string ⟨#[103, 111, 111, 100, 115]⟩); refine (H1.out _ _ _ HI1.out).mono ?_; rintro e w2 ⟨rfl, hI2⟩; have HI2 : Hid (Pd _ _ _ _ _) := hI2; clear hI2)
  | (go_at_call_of 11 (Value.int .i64 9); refine (H2.out _ _ _ HI2.out).mono ?_; rintro e w3 ⟨rfl, hI3⟩; have HI3 : Hid (Pd _ _ _ _ _) := hI3; clear hI3)
  | (go_at_call_of 11 (Value.int .i64 8); refine (H3.out _ _ _ HI3.out).mono ?_; rintro e w4 ⟨rfl, hI4⟩; have HI4 : Hid (Pd _ _ _ _ _) := hI4; have ⟨s0, s1, s2⟩ := hI4.P; clear hI4)
  | (go_at_call_of 11 (Value.int .i64 7); refine (H4.out _ _ _ HI4.out).mono ?_; rintro e w5 ⟨rfl, hI5⟩; clear s0 s1 s2; have HI5 : Hid (Pd _ _ _ _ _) := hI5; have ⟨s0, s1, s2⟩ := hI5.P; clear hI5)
  | (go_at_call_of 11 (Value.int .i64 4); refine (H5.out _ _ _ HI5.out).mono ?_; rintro e w6 ⟨rfl, hI6⟩; clear s0 s1 s2; have HI6 : Hid (Pd _ _ _ _ _) := hI6; clear hI6)
  | (go_at_call 9; refine (HPl.out _ _ _ HI6.out).mono ?_; rintro e w7 ⟨g, c, rfl, ⟨t0, t1, t2, t3, t4⟩, ⟨t5, t6, t7, t8, t9⟩, ⟨s0, s1, s2⟩, hb7⟩; have HB7 : Hid (Below _ _ _) := hb7; clear hb7))
 rw [hA] at s0 s1 s2 t0 t1 t2 t5 t6 t7
 simp only at s0 s1 s2 t0 t1 t2 t3 t4 t5 t6 t7 t8 t9
 go_quiet (fail)
 go_wp2
 go_ret
 exact ⟨rfl, below_drewN HB7.out _⟩
theorem allFine_at : ∀ {p : List Ln} {b : Bk} {k : Nat} {q : Ln}, allFine b p → p[k]? = some q → doB (bkOuts b (p.take k)) (outEn q) = (bkOuts b (p.take (k + 1)), 0)
 | [], b, k, q, _, h => by simp at h
 | x :: p, b, 0, q, hf, h => by
  obtain rfl : x = q := by simpa using h
  exact Prod.ext rfl hf.1
 | x :: p, b, k + 1, q, hf, h => allFine_at (p := p) (b := (doB b (outEn x)).1) hf.2 (by simpa using h)
theorem outs_ok : ∀ (p : List Ln) {b : Bk}, BkOk b → BkOk (bkOuts b p)
 | [], _, h => h
 | q :: p, _, h => outs_ok p (h.do_ (outEn q))
theorem out_lens {b : Bk} (hok : BkOk b) (q : Ln) : (doB b (outEn q)).1.1.length = b.1.length ∧ (doB b (outEn q)).1.2.1.length = b.2.1.length := by
 by_cases he : entErr (outEn q) = 0
 ·have h1 : (outEn q).1 ≠ kGoods := by show kOut ≠ kGoods; decide
  have h2 : (outEn q).1 ≠ kLot := by show kOut ≠ kLot; decide
  rcases findI_cases nameL b.2.1 (outEn q).2.2.1.1 with ⟨h9, _⟩ | ⟨k, l, hkL, hl, hid⟩
  ·rw [doB_none he h1 h2 (by omega)]; exact ⟨rfl, rfl⟩
  ·rcases findI_cases nameG b.1 l.1.2.1 with ⟨_, h7⟩ | ⟨i, g, hiG, hg, hgn⟩
   ·obtain ⟨g, hg, e⟩ := hok.wf.lots l (List.mem_of_getElem? hl)
    exact absurd e (h7 g hg)
   ·rw [doB_at he h1 h2 hkL hl hiG hg]
    split
    ·exact ⟨List.length_set, List.length_set⟩
    ·exact ⟨rfl, rfl⟩
 ·rw [doB_err he]; exact ⟨rfl, rfl⟩
theorem outs_lens : ∀ (p : List Ln) {b : Bk}, BkOk b → (bkOuts b p).1.length = b.1.length ∧ (bkOuts b p).2.1.length = b.2.1.length
 | [], _, _ => ⟨rfl, rfl⟩
 | q :: p, b, h => by
  obtain ⟨h1, h2⟩ := out_lens h q
  obtain ⟨h3, h4⟩ := outs_lens p (h.do_ (outEn q))
  exact ⟨h3.trans h1, h4.trans h2⟩
structure Ord (b : Bk) (code : ByteArray) (day n : Int) (p : List Ln) (b' : Bk) : Prop where
 E : planE b code n day = 0
 P : planL b code n day = p
 L : b.2.1.length ≤ 59
 len : p.length ≤ 12000
 F : ∀ k q, p[k]? = some q → doB (bkOuts b (p.take k)) (outEn q) = (bkOuts b (p.take (k + 1)), 0) ∧ SzE (outEn q)
 G : ∀ k, (bkOuts b (p.take k)).1 ≠ [] ∧ (bkOuts b (p.take k)).2.1 ≠ []
 N : bkOuts b p = b'
theorem planAll_len {b : Bk} (hok : BkOk b) (h59 : b.2.1.length ≤ 59) (code : ByteArray) (day : Int) : (planAll b code day).length ≤ 12000 := by
 have h5 := ready_len (m := b.2.2) (goodLs b code day)
 have h6 : (goodLs b code day).length ≤ 59 := by
  unfold goodLs
  rw [List.length_map]
  refine Nat.le_trans (List.length_filter_le _ _) ?_
  rw [(lotsL_perm hok code).length_eq]
  exact Nat.le_trans (lotsOf_le _ _) h59
 have h7 : (goodLs b code day).length * b.2.2.length ≤ 59 * 200 := Nat.mul_le_mul h6 hok.wf.st.len
 show (readyL b.2.2 (goodLs b code day)).length ≤ _
 omega
theorem len_ne {α : Type} {l l' : List α} (h : l'.length = l.length) (hl : l ≠ []) : l' ≠ [] := fun e => by
 rw [e] at h
 exact hl (List.eq_nil_of_length_eq_zero h.symm)
theorem ord_of {b : Bk} (hok : BkOk b) (h59 : b.2.1.length ≤ 59) {code : ByteArray} {day n : Int} {i : Nat} {g : Gs} (hgd : isGoods b code = true) (hd : 0 ≤ day ∧ day ≤ 100000) (hn : 1 ≤ n ∧ n ≤ 1099511627776) (hs : n ≤ sumP (planAll b code day)) (h : Goes b code day n i g) : Ord b code day n (takeP (planAll b code day) n) (bkOuts b (takeP (planAll b code day) n)) := by
 have hE : planE b code n day = 0 := by unfold planE; rw [if_pos ⟨hn.1, hn.2, hd.1, hd.2⟩, if_pos hgd, if_pos hs]
 have hne : b.1 ≠ [] := fun e => by
  unfold isGoods findN at hgd
  rw [e] at hgd
  cases hgd
 have hne2 : b.2.1 ≠ [] := fun e => by
  have : planAll b code day = [] := by
   have h1 : goodLs b code day = [] := by
    apply List.eq_nil_iff_forall_not_mem.2
    intro x hx
    obtain ⟨l, hl, _⟩ := goodLs_mem hok hx
    rw [e] at hl
    cases hl
   show readyL b.2.2 (goodLs b code day) = []
   rw [h1]; rfl
  rw [this] at hs
  have z : sumP [] = 0 := rfl
  omega
 refine ⟨hE, by unfold planL; rw [if_pos hE], h59, Nat.le_trans (takeP_length _ _) (planAll_len hok h59 code day), fun k q hq => ⟨allFine_at h.fine hq, ?_⟩, fun k => ?_, rfl⟩
 ·obtain ⟨q', h1, h2, _⟩ := takeP_keys (List.mem_of_getElem? hq)
  obtain ⟨_, m, hm, h3, _⟩ := readyL_lots h1
  obtain ⟨o1, o2, _⟩ := hok.wf.st.ok m hm
  have h4 : keyL m = keyL q := h3.trans h2
  have h5 : m.1 = q.1 := congrArg (fun k : Sp => k.1) h4
  have h6 : m.2.1 = q.2.1 := congrArg (fun k : Sp => k.2) h4
  rw [h5] at o1
  rw [h6] at o2
  have z1 := name_short o2
  have z2 := name_short (okP_bounds o1).1
  exact ⟨by show kOut.size ≤ maxLen; decide, by show zeroG.1.size ≤ maxLen; decide, Nat.le_trans z1 (by decide), by show (ByteArray.mk #[]).size ≤ maxLen; decide, Nat.le_trans z2 (by decide), by show zeroP.1.size ≤ maxLen; decide⟩
 ·obtain ⟨h1, h2⟩ := outs_lens ((takeP (planAll b code day) n).take k) hok
  exact ⟨len_ne h1 hne, len_ne h2 hne2⟩
theorem isGoods_at {b : Bk} {code : ByteArray} (h : isGoods b code = true) : ∃ (i : Nat) (g : Gs), b.1[i]? = some g ∧ nameG g = code := by
 unfold isGoods at h
 rcases findN_cases nameG b.1 code with ⟨h1, _⟩ | ⟨y, _, h2, h3⟩
 ·rw [h1] at h; cases h
 ·obtain ⟨i, hi⟩ := List.getElem?_of_mem h2
  exact ⟨i, y, hi, h3⟩
theorem at_isGoods {b : Bk} {code : ByteArray} {i : Nat} {g : Gs} (h : b.1[i]? = some g) (hn : nameG g = code) : isGoods b code = true := by
 unfold isGoods
 rcases findN_cases nameG b.1 code with ⟨_, h2⟩ | ⟨y, h1, _, _⟩
 ·exact absurd hn (h2 g (List.mem_of_getElem? h))
 ·rw [h1]; rfl
theorem planE_zero {b : Bk} {code : ByteArray} {n day : Int} (h : planE b code n day = 0) : (1 ≤ n ∧ n ≤ 1099511627776 ∧ 0 ≤ day ∧ day ≤ 100000) ∧ isGoods b code = true ∧ n ≤ sumP (planAll b code day) := by
 unfold planE at h
 split at h
 ·rename_i h1
  split at h
  ·rename_i h2
   split at h
   ·rename_i h3; exact ⟨h1, h2, h3⟩
   ·cases h
  ·cases h
 ·cases h
theorem orders_of {b : Bk} (hok : BkOk b) (hpac : Pac b) (hin : InB b (40 * 1099511627776)) (h40 : b.2.1.length ≤ 40) {code : ByteArray} {day a c : Int} (ha : 1 ≤ a) (hc : 1 ≤ c) (hE : planE b code (a + c) day = 0) :
  ∃ p p1 p2 b1 b2, Ord b code day (a + c) p b2 ∧ Ord b code day a p1 b1 ∧ Ord b1 code day c p2 b2 := by
 obtain ⟨⟨e1, e2, e3, e4⟩, hgd, hs⟩ := planE_zero hE
 obtain ⟨i, g, hg, hgn⟩ := isGoods_at hgd
 have hm := List.mem_of_getElem? hg
 have h1 := hpac.sums g hm
 have h2 := hin g hm
 have h3 := (hok.wf.sums g hm).1
 have h4 := plan_has hok code day
 rw [← hgn] at h4 hs
 have hsu : g.2.2.1 + (a + c) ≤ mostS := by unfold mostS; omega
 rw [hgn] at hs
 obtain ⟨G, G1, s1, G2, hbe⟩ := parts_same hok (day := day) hg hgn (n := a) (n' := c) (by omega) (by omega) hs hsu
 have k1 : (bkOuts b (takeP (planAll b code day) a)).2.1.length ≤ 59 := by rw [(outs_lens _ hok).2]; omega
 have O := ord_of hok (by omega) hgd ⟨e3, e4⟩ ⟨e1, e2⟩ hs G
 have O1 := ord_of hok (by omega) hgd ⟨e3, e4⟩ (n := a) ⟨by omega, by omega⟩ (by omega) G1
 have hg2 : isGoods (bkOuts b (takeP (planAll b code day) a)) code = true := by
  obtain ⟨hi, _⟩ := List.getElem?_eq_some_iff.1 hg
  refine at_isGoods (i := i) (g := (g.1, (g.2.1, g.2.2.1 + a, g.2.2.2.1, g.2.2.2.2))) ?_ hgn
  rw [G1.is_, List.getElem?_set, if_pos rfl, if_pos hi]
 have O2 := ord_of (outs_ok _ hok) k1 hg2 ⟨e3, e4⟩ (n := c) ⟨by omega, by omega⟩ (by omega) G2
 rw [← hbe] at O2
 exact ⟨_, _, _, _, _, O, O1, O2⟩
theorem Ents.off_ {w w' : World} {x : List Nat} {q o : Nat} {l : List En} (h : Ents w q o l) (hf : Off x w w') (hq : q ∉ x) : Ents w' q o l :=
 ⟨Nat.lt_of_lt_of_le h.lt hf.size, fun k e hk => (h.at_ k e hk).of_block (hf.block q h.lt hq)⟩
theorem IsBk.apart {w w' : World} {B1 B2 : Nat} {x y : Bl} {b b' : Bk} (h : IsBk w B1 x b) (h2 : IsBk w B2 y b') (hg : b'.1 ≠ []) (hl : b'.2.1 ≠ []) (hx : ∀ k ∈ x.all, k < B2) (hf : Off y.all w w') : IsBk w' B1 x b := by
 obtain ⟨ps, bs, h⟩ := h
 have hy := h2.low
 obtain ⟨ps2, bs2, h2⟩ := h2
 have hlow : ∀ k ∈ x.all, k ∉ y.all := fun k hk e => by have := hx k hk; have := (hy k e).1; omega
 have mapne : ∀ {c : Nat} {L : List Ent}, MapL Tryz.prog 9 w c L → ps ≠ c := fun {c L} hm e => by
  obtain ⟨es, cl, h3, _⟩ := hm
  rw [← e, h.sblk] at h3
  cases h3
 have hps : ps ∉ y.all := fun e => by
  unfold Bl.all at e
  simp only [List.mem_cons, List.not_mem_nil, or_false] at e
  rcases e with e | e | e | e | e
  ·have h3 := h2.blk
   rw [← e, h.sblk] at h3
   injection h3 with h3
   injection h3 with _ h3
   exact absurd h3 (by decide)
  ·exact mapne h2.G e
  ·exact mapne h2.U e
  ·exact mapne h2.L e
  ·exact mapne h2.H e
 have key : ∀ {c : Nat} {α : Type} {f : α → ByteArray} {v : α → Value} {L : List α}, L ≠ [] → MapL Tryz.prog 9 w c (L.map fun z => (Value.string (f z), v z)) → bs ≠ c := fun {c α f v L} hne hm e => by
  obtain ⟨es, cl, h3, _, _, hp⟩ := hm
  obtain ⟨es', cl', h4, _, _, hp'⟩ := h.S.map
  rw [e, h3] at h4
  cases h4
  obtain ⟨z, hz⟩ := List.exists_mem_of_ne_nil L hne
  have h5 : (Value.string (f z), v z) ∈ b.2.2.map entN := (hp.symm.trans hp').mem_iff.1 (List.mem_map_of_mem hz)
  obtain ⟨u, _, hu⟩ := List.mem_map.1 h5
  unfold entN at hu
  cases hu
 have hbs : bs ∉ y.all := fun e => by
  unfold Bl.all at e
  simp only [List.mem_cons, List.not_mem_nil, or_false] at e
  rcases e with e | e | e | e | e
  ·obtain ⟨es', cl', h4, _⟩ := h.S.map
   rw [e, h2.blk] at h4
   cases h4
  ·exact key hg (f := fun z : Gs => z.1.1) (v := fun z => agG z.1) h2.G e
  ·exact key hg (f := fun z : Gs => z.1.1) (v := fun z => agU z.2) h2.U e
  ·exact key hl (f := fun z : Lh => z.1.1) (v := fun z => agQ z.1) h2.L e
  ·exact key hl (f := fun z : Lh => z.1.1) (v := fun z => .int .i64 z.2) h2.H e
 refine ⟨ps, bs, h.of_blocks fun k hk => hf.block k (h.low k hk).2 ?_⟩
 rcases hk with rfl | rfl | rfl | rfl | rfl | rfl | rfl
 ·exact hlow _ (by simp [Bl.all])
 ·exact hlow _ (by simp [Bl.all])
 ·exact hlow _ (by simp [Bl.all])
 ·exact hlow _ (by simp [Bl.all])
 ·exact hlow _ (by simp [Bl.all])
 ·exact hps
 ·exact hbs
structure Tb (w : World) (S : Nat) (x y : Bl) (bx bY : Bk) (W : World) : Prop where
 X : IsBk W w.heap.size x bx
 Y : IsBk W S y bY
 xs : ∀ k ∈ x.all, k < S
 S : w.heap.size ≤ S
 B : Below w.heap.size w W
theorem Tb.below {w W W' : World} {S : Nat} {x y : Bl} {bx bY : Bk} (h : Tb w S x y bx bY W) (hb : Below W.heap.size W W') : Tb w S x y bx bY W' :=
 ⟨h.X.below hb, h.Y.below hb, h.xs, h.S, h.B.trans (hb.mono h.B.size)⟩
theorem Tb.doX {w W : World} {S : Nat} {x y : Bl} {bx b' bY : Bk} {e : En} (h : Tb w S x y bx bY W) {s : Nat → Addr} (hs : Bs w s) (hz : SzE e) (hd : doB bx e = (b', 0)) :
  Calls Tryz.prog 11 #[.pointer (some ⟨x.p, 0, none⟩), agE e] W fun r w' => r = .returned .nilIface ∧ Tb w S x y b' bY w' ∧ Off x.all W w' :=
 (bdo_any W s w.heap.size x bx e h.X hz (hs.below h.B)).mono fun r w' ⟨r1, r2, r3⟩ => by
  rw [hd] at r1 r2
  exact ⟨r1, ⟨r2, h.Y.off r3 h.xs, h.xs, h.S, h.B.trans (r3.below h.B.size fun k hk => (h.X.low k hk).1)⟩, r3⟩
theorem Tb.doY {w W : World} {S : Nat} {x y : Bl} {bx b' bY : Bk} {e : En} (h : Tb w S x y bx bY W) {s : Nat → Addr} (hs : Bs w s) (hz : SzE e) (hd : doB bY e = (b', 0)) (h1 : bY.1 ≠ []) (h2 : bY.2.1 ≠ []) :
  Calls Tryz.prog 11 #[.pointer (some ⟨y.p, 0, none⟩), agE e] W fun r w' => r = .returned .nilIface ∧ Tb w S x y bx b' w' ∧ Off y.all W w' :=
 (bdo_any W s S y bY e h.Y hz (hs.below h.B)).mono fun r w' ⟨r1, r2, r3⟩ => by
  rw [hd] at r1 r2
  exact ⟨r1, ⟨h.X.apart h.Y h1 h2 h.xs r3, r2, h.xs, h.S, h.B.trans (r3.below h.B.size fun k hk => Nat.le_trans h.S (h.Y.low k hk).1)⟩, r3⟩
theorem orders_fun {b b1 b2 : Bk} {code : ByteArray} {day a c : Int} {p1 p2 : List Ln} (O1 : Ord b code day a p1 b1) (O2 : Ord b1 code day c p2 b2) :
  ∃ (nY : Nat → Int) (bY : Nat → Bk) (pY : Nat → List Ln), nY 0 = a ∧ nY 1 = c ∧ bY 0 = b ∧ bY 2 = b2 ∧ ∀ k, k < 2 → Ord (bY k) code day (nY k) (pY k) (bY (k + 1)) := by
 refine ⟨fun k => if k = 0 then a else c, fun k => if k = 0 then b else if k = 1 then b1 else b2, fun k => if k = 0 then p1 else p2, rfl, rfl, rfl, rfl, fun k hk => ?_⟩
 match k, hk with
 | 0, _ => exact O1
 | 1, _ => exact O2
structure Ty (w : World) (S : Nat) (x y : Bl) (bx bY : Bk) (t : Nat) (a c : Int) (W : World) : Prop where
 T : Tb w S x y bx bY W
 c0 : W.cell? ⟨t, 0, none⟩ = some (.int .i64 a)
 c1 : W.cell? ⟨t, 1, none⟩ = some (.int .i64 c)
 ht : t ∉ y.all
theorem Ty.below {w W W' : World} {S t : Nat} {x y : Bl} {bx bY : Bk} {a c : Int} (h : Ty w S x y bx bY t a c W) (hb : Below W.heap.size W W') : Ty w S x y bx bY t a c W' :=
 ⟨h.T.below hb, (hb.cell (p := ⟨t, 0, none⟩) (cell_lt h.c0)).trans h.c0, (hb.cell (p := ⟨t, 1, none⟩) (cell_lt h.c1)).trans h.c1, h.ht⟩
theorem Ty.two {w W : World} {S t : Nat} {x y : Bl} {bx bY : Bk} {a c : Int} (h : Ty w S x y bx bY t a c W) {nY : Nat → Int} (h0 : nY 0 = a) (h1 : nY 1 = c) {k : Nat} (hk : k < 2) : W.cell? ⟨t, k, none⟩ = some (.int .i64 (nY k)) := by
 match k, hk with
 | 0, _ => rw [h0]; exact h.c0
 | 1, _ => rw [h1]; exact h.c1
theorem map_at {p : List Ln} {k : Nat} {e : En} (h : (p.map outEn)[k]? = some e) : ∃ q, p[k]? = some q ∧ e = outEn q := by
 rw [List.getElem?_map] at h
 cases hq : p[k]? with
 | none => rw [hq] at h; cases h
 | some q => rw [hq] at h; exact ⟨q, rfl, (Option.some.inj h).symm⟩
theorem tb_plan {W : World} {B : Nat} {z : Bl} {b b' : Bk} {code : ByteArray} {day n : Int} {p : List Ln} (O : Ord b code day n p b') (h : IsBk W B z b) {s : Nat → Addr} (hp : Ps W s) (hcz : code.size ≤ 30) :
  Calls Tryz.prog 9 #[.pointer (some ⟨z.p, 0, none⟩), .string code, .int .i64 n, .int .i64 day] W fun e w' => ∃ v, e = .returned (.tuple #[v, .nilIface]) ∧ RowV w' v p ∧ Below W.heap.size W w' :=
 (plan_any code n day W s B z b h hp (Nat.le_trans hcz (by decide)) O.L).mono fun e w' ⟨v, h1, h2, h3⟩ => by
  rw [O.E, errP_zero] at h1
  rw [O.P] at h2
  exact ⟨v, h1, rowV_of h2, h3⟩
theorem tb_out {W : World} {v : Value} {p : List Ln} {x y : Bl} (h : RowV W v p) (hl : p.length ≤ 12000) (hx : ∀ k ∈ x.all, k < W.heap.size) (hy : ∀ k ∈ y.all, k < W.heap.size) :
  Calls Tryz.prog 10 #[v] W fun e w' => ∃ g, e = .returned (.slice (some ⟨g, 0, none⟩) p.length p.length) ∧ (g ∉ x.all ∧ g ∉ y.all) ∧ Ents w' g 0 (p.map outEn) ∧ Below W.heap.size W w' :=
 (out_any W v p h (by omega)).mono fun e w' ⟨g, h1, h2, h3, h4⟩ => ⟨g, h1, ⟨fun e => by have := hx g e; omega, fun e => by have := hy g e; omega⟩, h3, h4⟩
theorem Tb.xl {w W : World} {S : Nat} {x y : Bl} {bx bY : Bk} (h : Tb w S x y bx bY W) : ∀ k ∈ x.all, k < W.heap.size := fun k hk => (h.X.low k hk).2
theorem Tb.yl {w W : World} {S : Nat} {x y : Bl} {bx bY : Bk} (h : Tb w S x y bx bY W) : ∀ k ∈ y.all, k < W.heap.size := fun k hk => (h.Y.low k hk).2
theorem parts_err (pp : Option Addr) (l : List En) (cap : Nat) (code : ByteArray) (a c day : Int) (w : World) (s : Nat → Addr) (hs : Sent w s) (hh : Handle w) (hz : ∀ e ∈ l, SzE e) (hr : l = [] ∨ ∃ bq off, pp = some ⟨bq, off, none⟩ ∧ Ents w bq off l) (h40 : l.length ≤ 40) (hno : longs l = false) (hcz : code.size ≤ 30) (a1 : 1 ≤ a) (a2 : a ≤ 549755813888) (c1 : 1 ≤ c) (c2 : c ≤ 549755813888) (hE : planE (bkTo l l.length) code (a + c) day ≠ 0) :
  Calls Tryz.prog 3 #[.slice pp l.length cap, .string code, .int .i64 a, .int .i64 c, .int .i64 day] w fun r w' => r = .returned (.bool true) ∧ Below w.heap.size w w' := by
 have HSt : Hid (Calls Tryz.prog 5 _ _ _) := planned_any w s hs.bs hs.ps
 have HLg : Hid (∀ W, Below w.heap.size w W → Calls Tryz.prog 6 #[.slice pp l.length cap, .int .i64 40] W fun r w' => r = .returned (.int .i64 0) ∧ Below W.heap.size W w') := fun W hb => by
  rcases hr with rfl | ⟨bq, off, rfl, hE⟩
  ·refine (longs_none pp cap 40 W (by decide)).mono ?_
   rintro r w' ⟨rfl, rfl⟩
   exact ⟨rfl, Below.refl _ _⟩
  ·have := longs_some l bq off cap 40 W (hE.below hE.lt hb) hz (by omega) (by decide)
   rw [hno] at this
   exact this
 have HOf : Hid (∀ W, Below w.heap.size w W → Calls Tryz.prog 7 #[.slice pp l.length cap] W fun e w' => ∃ x Bq q, e = .returned (.tuple #[.pointer (some ⟨x.p, 0, none⟩), .pointer (some ⟨q, 0, none⟩), .bool true]) ∧ IsBk w' w.heap.size x (bkTo l l.length) ∧ Below w.heap.size w w') := fun W hb => by
  refine (bookOf_any pp l cap W s (hs.below hb) (hh.below hb) hz (hr.imp id fun ⟨bq, off, h1, h2⟩ => ⟨bq, off, h1, h2.below h2.lt hb⟩) (by omega)).mono ?_
  rintro r w' ⟨x, Bq, q, h1, h2⟩
  exact ⟨x, Bq, q, h1, h2.prog.mono hb.size, hb.trans (h2.below.mono hb.size)⟩
 have HPl : Hid (∀ W x, Below w.heap.size w W → IsBk W w.heap.size x (bkTo l l.length) → Calls Tryz.prog 9 #[.pointer (some ⟨x.p, 0, none⟩), .string code, .int .i64 (a + c), .int .i64 day] W fun e w' => ∃ pv cv, e = .returned (.tuple #[.slice pv 0 cv, err (s (planE (bkTo l l.length) code (a + c) day - 1))]) ∧ Below W.heap.size W w') := fun W x hb hx =>
  (plan_any code (a + c) day W s w.heap.size x _ hx (hs.ps.below hb) (Nat.le_trans hcz (by decide)) (Nat.le_trans (bkTo_lots l l.length) (by omega))).mono fun e w' ⟨v, h1, h2, h3⟩ => by
   unfold planL at h2
   rw [if_neg hE] at h2
   rw [errP_pos s hE] at h1
   rcases rowV_of h2 with ⟨_, h4⟩ | ⟨g, cv, h4, _⟩
   ·exact ⟨none, 0, by rw [h1, h4], h3⟩
   ·exact ⟨_, cv, by rw [h1, h4]; rfl, h3⟩
 have hln : l.length ≤ 40 := h40
 clear hs hh hz hr hno
 generalize s (planE (bkTo l l.length) code (a + c) day - 1) = ad at *
 generalize bkTo l l.length = b at *
 generalize l.length = ln at *
 clear hE h40
 have hcz' : (code.size : Int) ≤ 30 := by omega
 go_enter Tryz.func3, Tryz.ntmps3
 go_wp2_with (first
  | (go_at_call 5; refine HSt.out.mono ?_; rintro r w1 ⟨rfl, hb1⟩; have HB1 : Hid (Below w.heap.size w w1) := hb1; clear hb1)
  | (go_at_call 6; refine (HLg.out _ HB1.out).mono ?_; rintro r w2 ⟨rfl, hb2⟩; have HB2 : Hid (Below w.heap.size w w2) := HB1.out.trans (hb2.mono HB1.out.size); clear hb2)
  | (go_at_call 7; refine (HOf.out _ HB2.out).mono ?_; rintro r w3 ⟨x, Bq, q, rfl, hI3, hb3⟩; have HI3 : Hid (IsBk w3 w.heap.size x b) := hI3; have HB3 : Hid (Below w.heap.size w w3) := hb3; clear hI3 hb3)
  | (go_at_call 8; refine (bcopy_any _ _ _ _ HI3.out).mono ?_; rintro r w4 ⟨y, rfl, hy, hb4⟩; have HI4 : Hid (IsBk w4 w.heap.size x b) := HI3.out.below hb4; have HB4 : Hid (Below w.heap.size w w4) := HB3.out.trans (hb4.mono HB3.out.size); clear hy hb4)
  | (go_at_call 9; refine (HPl.out _ _ HB4.out HI4.out).mono ?_; rintro r w5 ⟨pv, cv, rfl, hb5⟩; have HB5 : Hid (Below w.heap.size w w5) := HB4.out.trans (hb5.mono HB4.out.size); clear hb5))
 go_ret
 exact ⟨rfl, HB5.out⟩
end Go.Proofs.YtefkchmahcjleaaGreatDoor
