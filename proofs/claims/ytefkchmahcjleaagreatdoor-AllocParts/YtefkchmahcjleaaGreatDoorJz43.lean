/-
 Plain mathematics of plans: picks that go out of a book, one behind the other: no error, and the book behind them.
-/
import Derived.Test.YtefkchmahcjleaaGreatDoorJz16
import Derived.Test.YtefkchmahcjleaaGreatDoorJz19
import Derived.Test.YtefkchmahcjleaaGreatDoorJz25
import Derived.Test.YtefkchmahcjleaaGreatDoorJz35
import Derived.Test.YtefkchmahcjleaaGreatDoorJz20
import Derived.Test.YtefkchmahcjleaaGreatDoorQAlM
import Derived.Deep.RegionHeld3
import Derived.BigQuiet
import Derived.OwnWalk
import Derived.Laws.StructEq
import Derived.Test.YtefkchmahcjleaaGreatDoorJz17
import Derived.Lib.QuietBelow
import Derived.Test.YtefkchmahcjleaaGreatDoorBDo
import Derived.Test.YtefkchmahcjleaaGreatDoorJz3
set_option maxRecDepth 100000
set_option maxHeartbeats 16000000
namespace Go.Proofs.YtefkchmahcjleaaGreatDoor
open Go.Lib Go.Sort
def outEn (q : Ln) : En := (kOut, zeroG, (q.2.1, ⟨#[]⟩, 0, 0), q.1, zeroP, q.2.2)
theorem outEn_err {q : Ln} (h1 : okP q.1 = true) (h2 : isName q.2.1.data.toList = true) (h3 : 1 ≤ q.2.2) (h4 : q.2.2 ≤ 1099511627776) : entErr (outEn q) = 0 := by
 have hk : kd (outEn q).1 = .frm := kd_out
 have hn : numW q.2.2 = true := (numW_iff _).2 ⟨h3, h4⟩
 have hp : placeErr q.1 = 0 := (okP_err _).1 h1
 have h9 : ownErr (outEn q) = 0 := by
  unfold ownErr
  rw [hk]
  show pieceErr .frm (outEn q) = 0
  unfold pieceErr
  rw [if_pos (show isName (outEn q).2.2.1.1.data.toList = true from h2)]
  have e1 : fromErr .frm (outEn q).2.2.2.1 = 0 := by show (if kFrom .frm then placeErr q.1 else 0) = 0; rw [hp]; simp
  rw [if_pos e1, if_pos (show toErr .frm (outEn q).2.2.2.2.1 = 0 from rfl)]
  unfold numErr
  rw [if_pos (show numW (outEn q).2.2.2.2.2 = true from hn)]
  rfl
 unfold entErr
 rw [if_pos h9, if_pos]
 rw [sameE_iff]
 unfold othersE
 rw [hk]
 rfl
def goB (b : Bk) (i : Nat) (g : Gs) (q : Ln) : Bk := (b.1.set i (g.1, (g.2.1, g.2.2.1 + q.2.2, g.2.2.2.1, g.2.2.2.2)), b.2.1, withL b.2.2 (keyL q) (atL b.2.2 (keyL q) - q.2.2))
theorem do_out {b : Bk} (hok : BkOk b) {q : Ln} {k i : Nat} {l : Lh} {g : Gs} (hl : b.2.1[k]? = some l) (hid : nameL l = q.2.1) (hg : b.1[i]? = some g) (hgn : nameG g = l.1.2.1) (hn : 1 ≤ q.2.2) (hat : q.2.2 ≤ atL b.2.2 (keyL q)) (hh : l.2 ≤ ofL b.2.2 q.2.1 - q.2.2) (hsu : g.2.2.1 + q.2.2 ≤ mostS) :
  doB b (outEn q) = (goB b i g q, 0) := by
 have hm := mem_of_atL (m := b.2.2) (k := keyL q) (by omega)
 obtain ⟨o1, o2, _⟩ := hok.wf.st.ok _ hm
 have hle : q.2.2 ≤ 1099511627776 := Int.le_trans hat (Int.le_trans (hok.wf.st.at_le _) (hok.wf.st.most _))
 have he := outEn_err (q := q) o1 o2 hn hle
 have hn1 : (outEn q).1 ≠ kGoods := by show kOut ≠ kGoods; decide
 have hn2 : (outEn q).1 ≠ kLot := by show kOut ≠ kLot; decide
 have hkL : findI nameL b.2.1 (outEn q).2.2.1.1 = (k : Int) := by
  rcases findI_cases nameL b.2.1 (outEn q).2.2.1.1 with ⟨_, h9⟩ | ⟨k', l', h1, h2, h3⟩
  ·exact absurd hid (h9 l (List.mem_of_getElem? hl))
  ·by_cases e : k' = k
   ·rw [h1, e]
   ·exact absurd (h3.trans hid.symm) (sorted_ne hok.ls h2 hl e)
 have hiG : findI nameG b.1 l.1.2.1 = (i : Int) := by
  rcases findI_cases nameG b.1 l.1.2.1 with ⟨_, h9⟩ | ⟨i', g', h1, h2, h3⟩
  ·exact absurd hgn (h9 g (List.mem_of_getElem? hg))
  ·by_cases e : i' = i
   ·rw [h1, e]
   ·exact absurd (h3.trans hgn.symm) (sorted_ne hok.gs h2 hg e)
 rw [doB_at he hn1 hn2 hkL hl hiG hg]
 have hkd : kd (outEn q).1 = .frm := kd_out
 have hT : takeE b.2.2 (keyL q) q.2.2 = 0 := by
  unfold takeE
  rw [if_pos ((numW_iff _).2 ⟨hn, hle⟩), if_pos hat]
 have hE : stkE (outEn q) b.2.2 = 0 := by unfold stkE; rw [hkd]; exact hT
 have hL : stkL (outEn q) b.2.2 = withL b.2.2 (keyL q) (atL b.2.2 (keyL q) - q.2.2) := by
  unfold stkL
  rw [hkd]
  show takeL b.2.2 (keyL q) q.2.2 = _
  unfold takeL
  rw [if_pos hT]
 have hS : addSu (outEn q).1 g.2 (outEn q).2.2.2.2.2 = (g.2.1, g.2.2.1 + q.2.2, g.2.2.2.1, g.2.2.2.2) := by
  show addSu kOut g.2 q.2.2 = _
  unfold addSu
  rw [if_neg (by decide), if_neg (by decide), if_pos rfl]
 have hH : heldN (outEn q).1 l.2 (outEn q).2.2.2.2.2 = l.2 := by
  show heldN kOut l.2 q.2.2 = _
  unfold heldN
  rw [if_neg (by decide), if_neg (by decide)]
 have hO : ofL (stkL (outEn q) b.2.2) (outEn q).2.2.1.1 = ofL b.2.2 q.2.1 - q.2.2 := by
  rw [hL]
  show ofL (withL b.2.2 (keyL q) _) q.2.1 = _
  rw [withL_ofL hok.wf.st.sorted, if_pos (show (keyL q).2 = q.2.1 from rfl)]; omega
 have hw := (hok.wf.held l (List.mem_of_getElem? hl)).1
 have hP : pieceE b (outEn q) l g = 0 := by
  unfold pieceE
  rw [if_pos hE, hH, hO, if_neg (by omega), hS]
  obtain ⟨_, h6⟩ := hok.wf.sums g (List.mem_of_getElem? hg)
  unfold okSu at h6 ⊢
  simp at h6 ⊢
  exact ⟨h6.1, hsu, h6.2.2.1, h6.2.2.2⟩
 rw [if_pos hP]
 unfold pieceB goB
 rw [hS, hH, hL]
 have e : b.2.1.set k (l.1, l.2) = b.2.1 := by
  obtain ⟨hk, e9⟩ := List.getElem?_eq_some_iff.1 hl
  have : (l.1, l.2) = b.2.1[k] := e9.symm
  rw [this, List.set_getElem_self hk]
 rw [e]
def bkOuts : Bk → List Ln → Bk
 | b, [] => b
 | b, q :: p => bkOuts (doB b (outEn q)).1 p
def allFine : Bk → List Ln → Prop
 | _, [] => True
 | b, q :: p => (doB b (outEn q)).2 = 0 ∧ allFine (doB b (outEn q)).1 p
theorem outs_do {code : ByteArray} {i : Nat} : ∀ {p : List Ln} {b : Bk} {g : Gs}, BkOk b → b.1[i]? = some g → nameG g = code → PosP p → (∀ q ∈ p, ∃ l ∈ b.2.1, nameL l = q.2.1 ∧ l.1.2.1 = code) → (∀ k, remK p k ≤ atL b.2.2 k) → (∀ l ∈ b.2.1, l.2 ≤ ofL b.2.2 l.1.1 - ofL p l.1.1) → g.2.2.1 + sumP p ≤ mostS →
  allFine b p ∧ BkOk (bkOuts b p) ∧ bkOuts b p = (b.1.set i (g.1, (g.2.1, g.2.2.1 + sumP p, g.2.2.2.1, g.2.2.2.2)), b.2.1, outsM b.2.2 p)
 | [], b, g, hok, hg, _, _, _, _, _, _ => by
  refine ⟨trivial, hok, ?_⟩
  have z : sumP [] = 0 := rfl
  show b = (b.1.set i _, b.2.1, b.2.2)
  obtain ⟨hi, e9⟩ := List.getElem?_eq_some_iff.1 hg
  have e : (g.1, (g.2.1, g.2.2.1 + sumP [], g.2.2.2.1, g.2.2.2.2)) = b.1[i] := by rw [e9, z, Int.add_zero]
  rw [e, List.set_getElem_self hi]
 | q :: p, b, g, hok, hg, hgn, hp, hq, hk, hh, hsu => by
  obtain ⟨l, hlm, hid, hlc⟩ := hq q (List.mem_cons_self ..)
  obtain ⟨k, hk9⟩ := List.mem_iff_getElem?.1 hlm
  have h1 := hp.head
  have h2 := sumP_nonneg hp.tail
  have h3 := hk (keyL q)
  have h4 := remK_nonneg (keyL q) hp.tail
  have h5 := hh l hlm
  have h6 := ofL_nonneg (m := p) (fun x hx => hp.tail x hx) l.1.1
  have hidl : l.1.1 = q.2.1 := hid
  rw [remK_cons, if_pos rfl] at h3
  rw [ofL_cons, if_pos hidl.symm] at h5
  rw [sumP_cons] at hsu
  have hd := do_out hok hk9 hid hg (hgn.trans hlc.symm) h1 (by omega) (by rw [← hidl]; omega) (by omega)
  have hok1 : BkOk (goB b i g q) := by have := hok.do_ (outEn q); rw [hd] at this; exact this
  obtain ⟨hi, _⟩ := List.getElem?_eq_some_iff.1 hg
  have hg1 : (goB b i g q).1[i]? = some (g.1, (g.2.1, g.2.2.1 + q.2.2, g.2.2.2.1, g.2.2.2.2)) := by
   show (b.1.set i _)[i]? = _
   rw [List.getElem?_set, if_pos rfl, if_pos hi]
  obtain ⟨i1, i2, i3⟩ := outs_do (code := code) (p := p) hok1 hg1 hgn hp.tail (fun q' h' => hq q' (List.mem_cons_of_mem _ h')) (fun k' => by
   have := hk k'
   rw [remK_cons] at this
   show remK p k' ≤ atL (withL b.2.2 (keyL q) _) k'
   rw [withL_atL]
   by_cases e : k' = keyL q
   ·rw [if_pos e]; subst e; omega
   ·rw [if_neg e]
    rw [if_neg fun e9 => e e9.symm] at this
    omega) (fun l' h' => by
   have := hh l' h'
   rw [ofL_cons] at this
   show l'.2 ≤ ofL (withL b.2.2 (keyL q) _) l'.1.1 - ofL p l'.1.1
   rw [withL_ofL hok.wf.st.sorted]
   by_cases e : q.2.1 = l'.1.1
   ·rw [if_pos e] at this
    rw [if_pos (show (keyL q).2 = l'.1.1 from e)]; omega
   ·rw [if_neg e] at this
    rw [if_neg (show ¬ (keyL q).2 = l'.1.1 from e)]; omega) (by show g.2.2.1 + q.2.2 + sumP p ≤ mostS; omega)
  show ((doB b (outEn q)).2 = 0 ∧ allFine (doB b (outEn q)).1 p) ∧ BkOk (bkOuts (doB b (outEn q)).1 p) ∧ bkOuts (doB b (outEn q)).1 p = _
  rw [hd]
  refine ⟨⟨rfl, i1⟩, i2, ?_⟩
  rw [i3, sumP_cons]
  show ((b.1.set i _).set i _, b.2.1, outsM _ p) = (_, b.2.1, outsM (withL b.2.2 (keyL q) _) p)
  rw [List.set_set]
  show (b.1.set i (g.1, (g.2.1, g.2.2.1 + q.2.2 + sumP p, g.2.2.2.1, g.2.2.2.2)), _, _) = _
  rw [Int.add_assoc]; rfl
end Go.Proofs.YtefkchmahcjleaaGreatDoor
namespace Go.Proofs.YtefkchmahcjleaaGreatDoor
open Go.RowKit Go.Lib Go.Sort
theorem rel_perm_eq {α : Type} {r : α → α → Bool} (irr : ∀ a, r a a = false) (tr : ∀ a b c, r a b = true → r b c = true → r a c = true) : ∀ {m m' : List α}, m.Pairwise (fun a b => r a b = true) → m'.Pairwise (fun a b => r a b = true) → m.Perm m' → m = m'
 | [], m', _, _, hp => (List.nil_perm.1 hp).symm
 | a :: m, [], _, _, hp => by have := hp.length_eq; simp at this
 | a :: m, b :: m', h, h', hp => by
  obtain ⟨h1, h2⟩ := List.pairwise_cons.1 h
  obtain ⟨h3, h4⟩ := List.pairwise_cons.1 h'
  have e : a = b := by
   rcases List.mem_cons.1 (hp.mem_iff.1 (List.mem_cons_self ..)) with e | e
   ·exact e
   ·rcases List.mem_cons.1 (hp.mem_iff.2 (List.mem_cons_self ..)) with e' | e'
    ·exact e'.symm
    ·have := tr _ _ _ (h3 a e) (h1 b e')
     rw [irr] at this
     cases this
  subst e
  rw [rel_perm_eq irr tr h2 h4 (List.Perm.cons_inv hp)]
theorem soon_or {x y : Lo} (h : soonL y x = false) (hne : y.1 ≠ x.1) : soonL x y = true := by
 rw [soonL_iff]
 rw [soonL_no] at h
 unfold soonW at *
 rcases Int.lt_trichotomy x.2.2.1 y.2.2.1 with k | k | k
 ·exact Or.inl k
 ·refine Or.inr ⟨k, ?_⟩
  rcases cmpZ_cases x.1 y.1 with ⟨q1, q2, q3, q4⟩ | ⟨q1, q2, q3, q4⟩ | ⟨q1, q2, q3, q4⟩
  ·exact q1
  ·exact absurd (Or.inr ⟨k.symm, q2⟩) h
  ·exact absurd q3.symm hne
 ·exact absurd (Or.inl k) h
theorem insS_cons (y : Lo) (m : List Lo) (x : Lo) : insS (y :: m) x = if soonL y x = true then y :: insS m x else x :: y :: m := by
 unfold insS
 cases h : soonL y x with
 | true =>
  have e : soonC x (y :: m) = soonC x m + 1 := by unfold soonC; rw [if_pos h]; cases m <;> rfl
  rw [e]; simp
 | false =>
  have e : soonC x (y :: m) = 0 := by unfold soonC; rw [if_neg (by rw [h]; decide)]
  rw [e]; simp
theorem insS_perm (m : List Lo) (x : Lo) : (insS m x).Perm (x :: m) := by
 unfold insS
 refine List.perm_middle.trans ?_
 rw [List.take_append_drop]
theorem insS_sorted : ∀ {m : List Lo} {x : Lo}, m.Pairwise (fun a b => soonL a b = true) → (∀ y ∈ m, y.1 ≠ x.1) → (insS m x).Pairwise (fun a b => soonL a b = true)
 | [], x, _, _ => by rw [insS_nil]; exact List.pairwise_singleton _ _
 | y :: m, x, hs, hn => by
  rw [insS_cons]
  obtain ⟨h1, h2⟩ := List.pairwise_cons.1 hs
  cases h : soonL y x with
  | true =>
   rw [if_pos rfl]
   refine List.pairwise_cons.2 ⟨fun z hz => ?_, insS_sorted h2 fun z hz => hn z (List.mem_cons_of_mem _ hz)⟩
   rcases List.mem_cons.1 ((insS_perm m x).mem_iff.1 hz) with rfl | hz
   ·exact h
   ·exact h1 z hz
  | false =>
   rw [if_neg (by decide)]
   have hxy : soonL x y = true := soon_or h (hn y (List.mem_cons_self ..))
   refine List.pairwise_cons.2 ⟨fun z hz => ?_, hs⟩
   rcases List.mem_cons.1 hz with rfl | hz
   ·exact hxy
   ·exact swoL.trans _ _ _ hxy (h1 z hz)
theorem lotsL_take {b : Bk} (hok : BkOk b) (c : ByteArray) : ∀ k, k ≤ b.2.1.length → (lotsL c (b.2.1.take k)).Perm (lotsOf (b.2.1.take k) c) ∧ (lotsL c (b.2.1.take k)).Pairwise (fun a b => soonL a b = true)
 | 0, _ => ⟨List.Perm.refl _, List.Pairwise.nil⟩
 | k + 1, h => by
  obtain ⟨i1, i2⟩ := lotsL_take hok c k (by omega)
  have hx := List.getElem?_eq_getElem (l := b.2.1) (i := k) (by omega)
  generalize b.2.1[k]'(by omega) = x at hx
  rw [lotsL_succ hx]
  have e : b.2.1.take (k + 1) = b.2.1.take k ++ [x] := by rw [List.take_add_one, hx]; rfl
  rw [e, lotsOf_app]
  by_cases hc : x.1.2.1 = c
  ·rw [if_pos hc, lotsOf_hit hc]
   refine ⟨(insS_perm _ _).trans ((i1.cons _).trans (List.perm_append_singleton _ _).symm), insS_sorted i2 fun y hy e9 => ?_⟩
   obtain ⟨l, hl, rfl⟩ := lotsOf_mem (i1.mem_iff.1 hy)
   have hp : (b.2.1.take (k + 1)).Pairwise (fun x y => zLt (nameL x) (nameL y) = true) := hok.ls.sublist (List.take_sublist ..)
   rw [e] at hp
   have h9 := (List.pairwise_append.1 hp).2.2 l hl x (by simp)
   have e8 : nameL l = nameL x := e9
   rw [e8, zLt_irrefl] at h9
   cases h9
  ·rw [if_neg hc, lotsOf_miss hc, List.append_nil]
   exact ⟨i1, i2⟩
theorem lots_eq {b : Bk} (hok : BkOk b) {c : ByteArray} {d : Array Lo} (hpm : d.toList.Perm (lotsOf b.2.1 c)) (hs : SortedIn soonL 0 d.size d) : d.toList = lotsL c b.2.1 := by
 obtain ⟨h1, h2⟩ := lotsL_take hok c b.2.1.length (Nat.le_refl _)
 rw [List.take_length] at h1 h2
 refine rel_perm_eq swoL.irrefl swoL.trans ?_ h2 (hpm.trans h1.symm)
 have hn : (d.toList.map fun x : Lo => x.1).Nodup := (hpm.map _).nodup_iff.2 (lotsOf_ids hok c)
 rw [List.pairwise_iff_getElem]
 intro i j hi hj hij
 have hj' : j < d.size := by simpa using hj
 have h3 := hs i j (Nat.zero_le _) hij hj'
 unfold List.Nodup at hn
 rw [List.pairwise_map] at hn
 have h4 := List.pairwise_iff_getElem.1 hn i j hi hj hij
 rw [getElem!_pos d i (by omega), getElem!_pos d j hj'] at h3
 simp only [Array.getElem_toList] at h4 ⊢
 exact soon_or h3 fun e => h4 e.symm
theorem lot_there {b : Bk} (hok : BkOk b) {l : Lh} (hl : l ∈ b.2.1) : lotAt b l.1.1 = l.1 ∧ isLot b l.1.1 = true ∧ heldB b l.1.1 = l.2 := by
 unfold lotAt isLot heldB
 rcases findN_cases nameL b.2.1 l.1.1 with ⟨_, h2⟩ | ⟨x, h1, h2, h3⟩
 ·exact absurd rfl (h2 l hl)
 ·rw [h1, name_uniq hok.ls h2 hl h3]; exact ⟨rfl, rfl, rfl⟩
end Go.Proofs.YtefkchmahcjleaaGreatDoor
namespace Go.Proofs.YtefkchmahcjleaaGreatDoor
open Go.Lib Go.Sort
def InB (b : Bk) (K : Int) : Prop := ∀ g ∈ b.1, g.2.1 + g.2.2.2.1 ≤ K
theorem InB.do_ {b : Bk} {K : Int} (h : InB b K) (hK : 0 ≤ K) (e : En) : InB (doB b e).1 (K + 1099511627776) := by
 have h0 : InB b (K + 1099511627776) := fun g hg => by have := h g hg; omega
 by_cases he : entErr e = 0
 ·by_cases h1 : e.1 = kGoods
  ·rw [doB_goods he h1]
   by_cases h9 : goodsE b e.2.1 = 0
   ·rw [if_pos h9]
    intro g hg
    rcases (insC_mem nameG b.1 (e.2.1, zeroSu) g).1 hg with rfl | hg
    ·show (0 : Int) + 0 ≤ _; omega
    ·exact h0 g hg
   ·rw [if_neg h9]; exact h0
  by_cases h2 : e.1 = kLot
  ·rw [doB_lot he h2]
   by_cases h9 : lotBE b e.2.2.1 = 0
   ·rw [if_pos h9]; exact h0
   ·rw [if_neg h9]; exact h0
  obtain ⟨n1, n2⟩ := piece_num he h1 h2
  rcases findI_cases nameL b.2.1 e.2.2.1.1 with ⟨h9, _⟩ | ⟨k, l, hkL, hl, hid⟩
  ·rw [doB_none he h1 h2 (by omega)]; exact h0
  ·rcases findI_cases nameG b.1 l.1.2.1 with ⟨h8, _⟩ | ⟨i, g, hiG, hg, hgn⟩
   ·have e9 : (doB b e).1 = b := by
     unfold doB
     rw [if_pos he]
     obtain ⟨q1, q2⟩ := piece_kind h1 h2
     have hx : b.2.1.findIdx? (fun l => decide (nameL l = e.2.2.1.1)) = some k := by
      unfold findI at hkL
      split at hkL
      ·rename_i j hj
       rw [hj]; congr 1; omega
      ·omega
     have hy : b.1.findIdx? (fun g => decide (nameG g = l.1.2.1)) = none := by
      unfold findI at h8
      split at h8
      ·omega
      ·assumption
     cases hd : kd e.1 with
     | goods => exact absurd hd q1
     | lot => exact absurd hd q2
     | _ => simp only [hx, hl, hy]
    rw [e9]; exact h0
   ·rw [doB_at he h1 h2 hkL hl hiG hg]
    by_cases h9 : pieceE b e l g = 0
    ·rw [if_pos h9]
     intro g' hg'
     rcases List.mem_or_eq_of_mem_set hg' with h7 | h7
     ·exact h0 g' h7
     ·have h6 := h g (List.mem_of_getElem? hg)
      rw [h7]
      show (addSu e.1 g.2 e.2.2.2.2.2).1 + (addSu e.1 g.2 e.2.2.2.2.2).2.2.1 ≤ _
      unfold addSu
      repeat' split
      all_goals (try simp only) <;> omega
    ·rw [if_neg h9]; exact h0
 ·rw [doB_err he]; exact h0
theorem bkTo_in (l : List En) : ∀ k : Nat, InB (bkTo l k) (k * 1099511627776)
 | 0 => fun g hg => by cases hg
 | k + 1 => by
  cases h : l[k]? with
  | none =>
   have e : bkTo l (k + 1) = bkTo l k := by
    show (match l[k]? with | some e => (doB (bkTo l k) e).1 | none => bkTo l k) = _
    rw [h]
   rw [e]
   intro g hg
   have := bkTo_in l k g hg
   omega
  | some e =>
   rw [bkTo_succ h]
   have := (bkTo_in l k).do_ (by omega) e
   intro g hg
   have := this g hg
   omega
def goodLs (b : Bk) (code : ByteArray) (day : Int) : List (ByteArray × Int) := ((lotsL code b.2.1).filter fun l => decide (day ≤ l.2.2.1)).map fun l => (l.1, heldB b l.1)
def planAll (b : Bk) (code : ByteArray) (day : Int) : List Ln := readyL b.2.2 (goodLs b code day)
theorem lotsL_perm {b : Bk} (hok : BkOk b) (c : ByteArray) : (lotsL c b.2.1).Perm (lotsOf b.2.1 c) := by
 have := (lotsL_take hok c b.2.1.length (Nat.le_refl _)).1
 rw [List.take_length] at this
 exact this
theorem goodLs_mem {b : Bk} (hok : BkOk b) {code : ByteArray} {day : Int} {x : ByteArray × Int} (h : x ∈ goodLs b code day) : ∃ l ∈ b.2.1, l.1.1 = x.1 ∧ l.1.2.1 = code ∧ l.2 = x.2 := by
 obtain ⟨y, hy, rfl⟩ := List.mem_map.1 h
 have h1 := (lotsL_perm hok code).mem_iff.1 (List.mem_filter.1 hy).1
 unfold lotsOf at h1
 obtain ⟨l, hl, rfl⟩ := List.mem_map.1 h1
 obtain ⟨hl1, hl2⟩ := List.mem_filter.1 hl
 exact ⟨l, hl1, rfl, by simpa using hl2, ((lot_there hok hl1).2.2).symm⟩
theorem goodLs_ok {b : Bk} (hok : BkOk b) (code : ByteArray) (day : Int) : LsOk b.2.2 (goodLs b code day) := by
 constructor
 ·unfold goodLs
  rw [List.map_map]
  have h1 : ((lotsL code b.2.1).map fun x : Lo => x.1).Nodup := ((lotsL_perm hok code).map _).nodup_iff.2 (lotsOf_ids hok code)
  exact h1.sublist ((List.filter_sublist (l := lotsL code b.2.1)).map _)
 ·intro x hx
  obtain ⟨l, hl, h1, _, h3⟩ := goodLs_mem hok hx
  have := hok.wf.held l hl
  rw [← h1, ← h3]; exact this
theorem readyL_sum {m : List Ln} (hp : PosP m) : ∀ {ls : List (ByteArray × Int)}, (∀ x ∈ ls, 0 ≤ x.2 ∧ x.2 ≤ ofL m x.1) → sumP (readyL m ls) ≤ (ls.map fun x => ofL m x.1).sum
 | [], _ => Int.le_refl _
 | (c, h) :: ls, hx => by
  have h1 := hx (c, h) (List.mem_cons_self ..)
  simp only at h1
  have ih := readyL_sum hp (ls := ls) fun x h9 => hx x (List.mem_cons_of_mem _ h9)
  show sumP (takeP _ _ ++ _) ≤ _
  have hF : PosP (linesOf m c) := fun p hq => hp p (List.mem_filter.1 hq).1
  rw [sumP_app, takeP_sum hF (by omega), linesOf_sum]
  simp only [List.map_cons, List.sum_cons]
  omega
theorem sum_filter_le {α : Type} (f : α → Int) (p : α → Bool) (hf : ∀ x, 0 ≤ f x) : ∀ l : List α, ((l.filter p).map f).sum ≤ (l.map f).sum
 | [] => Int.le_refl _
 | x :: l => by
  have ih := sum_filter_le f p hf l
  have := hf x
  rw [List.filter_cons]
  split
  ·simp only [List.map_cons, List.sum_cons]; omega
  ·simp only [List.map_cons, List.sum_cons]; omega
theorem sum_perm {l l' : List Int} (h : l.Perm l') : l.sum = l'.sum := by
 induction h with
 | nil => rfl
 | cons x _ ih => simp [ih]
 | swap x y l => simp; omega
 | trans _ _ i1 i2 => exact i1.trans i2
theorem hasL_lotsOf (m : List Ln) (c : ByteArray) : ∀ L : List Lh, ((lotsOf L c).map fun l : Lo => ofL m l.1).sum = hasL m c L
 | [] => rfl
 | x :: L => by
  have ih := hasL_lotsOf m c L
  have e : lotsOf (x :: L) c = lotsOf [x] c ++ lotsOf L c := lotsOf_app [x] L c
  rw [e, hasL_cons, List.map_append, List.sum_append, ih]
  by_cases h : x.1.2.1 = c
  ·rw [lotsOf_hit h, if_pos h]; simp
  ·rw [lotsOf_miss h, if_neg h]; simp
theorem plan_has {b : Bk} (hok : BkOk b) (code : ByteArray) (day : Int) : sumP (planAll b code day) ≤ hasL b.2.2 code b.2.1 := by
 have hp : PosP b.2.2 := fun p hq => hok.wf.st.pos p hq
 have h1 := readyL_sum hp (goodLs_ok hok code day).held
 have h2 := sum_filter_le (fun l : Lo => ofL b.2.2 l.1) (fun l => decide (day ≤ l.2.2.1)) (fun l => ofL_nonneg (fun x hx => hp x hx) _) (lotsL code b.2.1)
 have h3 : ((goodLs b code day).map fun x => ofL b.2.2 x.1) = ((lotsL code b.2.1).filter fun l => decide (day ≤ l.2.2.1)).map fun l : Lo => ofL b.2.2 l.1 := by
  unfold goodLs; rw [List.map_map]; rfl
 have h4 := sum_perm ((lotsL_perm hok code).map fun l : Lo => ofL b.2.2 l.1)
 rw [hasL_lotsOf] at h4
 rw [h3] at h1
 unfold planAll
 omega
end Go.Proofs.YtefkchmahcjleaaGreatDoor
namespace Go.Proofs.YtefkchmahcjleaaGreatDoor
open Go.RowKit Go.Lib Go.Sort
theorem readyL_app (m : List Ln) : ∀ (a : List (ByteArray × Int)) (x : ByteArray × Int), readyL m (a ++ [x]) = readyL m a ++ takeP (linesOf m x.1) (ofL m x.1 - x.2)
 | [], x => by show takeP _ _ ++ [] = [] ++ takeP _ _; simp
 | y :: a, x => by
  show takeP _ _ ++ readyL m (a ++ [x]) = takeP _ _ ++ readyL m a ++ _
  rw [readyL_app m a x, List.append_assoc]
def goodP (b : Bk) (day : Int) (L : List Lo) : List (ByteArray × Int) := (L.filter fun l => decide (day ≤ l.2.2.1)).map fun l => (l.1, heldB b l.1)
theorem goodP_succ {b : Bk} {day : Int} {L : List Lo} {k : Nat} {l : Lo} (h : L[k]? = some l) : goodP b day (L.take (k + 1)) = goodP b day (L.take k) ++ (if day ≤ l.2.2.1 then [(l.1, heldB b l.1)] else []) := by
 unfold goodP
 rw [List.take_add_one, h]
 show ((L.take k ++ [l]).filter _).map _ = _
 rw [List.filter_append, List.map_append]
 congr 1
 by_cases hd : day ≤ l.2.2.1 <;> simp [hd]
theorem ready_len {m : List Ln} : ∀ ls : List (ByteArray × Int), (readyL m ls).length ≤ ls.length * m.length
 | [] => Nat.zero_le _
 | (c, h) :: ls => by
  have ih := ready_len (m := m) ls
  have h1 := takeP_length (linesOf m c) (ofL m c - h)
  have h2 := linesOf_length m c
  show (takeP _ _ ++ readyL m ls).length ≤ _
  rw [List.length_append, List.length_cons, Nat.succ_mul]
  omega
theorem goodP_len (b : Bk) (day : Int) (L : List Lo) (k : Nat) : (goodP b day (L.take k)).length ≤ k := by
 unfold goodP
 rw [List.length_map]
 exact Nat.le_trans (List.length_filter_le _ _) (by rw [List.length_take]; omega)
theorem cell_blk4 {w : World} {b : Nat} {v0 v1 v2 v3 : Value} {T : TypeId} (h : w.heap[b]? = some (.cells #[v0, v1, v2, v3] T (0, 0))) : w.cell? ⟨b, 0, none⟩ = some v0 := by rw [cell_of_heap h]; rfl
theorem ready_any (code : ByteArray) (day : Int) (w : World) (B : Nat) (x : Bl) (b : Bk) (h : IsBk w B x b) (h59 : b.2.1.length ≤ 59) :
  Calls Tryz.prog 31 #[.pointer (some ⟨x.p, 0, none⟩), .string code, .int .i64 day] w fun e w' => ∃ v, e = .returned v ∧ encLn.Row w' w.heap.size 60 v (planAll b code day) ∧ Below w.heap.size w w' := by
 have hok := h.ok
 have hpm := lotsL_perm hok code
 have HSt : Hid (Calls Tryz.prog 67 _ w _) := bstock_any w B x b h
 have HLt : Hid (∀ W, Below w.heap.size w W → Calls Tryz.prog 68 #[.pointer (some ⟨x.p, 0, none⟩), .string code] W fun e w' => ∃ pl cl, e = .returned (.slice pl (lotsL code b.2.1).length cl) ∧ (∀ j l, (lotsL code b.2.1)[j]? = some l → ∃ g, pl = some ⟨g, 0, none⟩ ∧ g < w'.heap.size ∧ LotC w' g (j * 4) l) ∧ Below W.heap.size W w') := fun W hb => (blots_any code W B x b (h.below hb) h59).mono fun e w' ⟨v, d, h1, h2, h3, h4, h5⟩ => by
  have he := lots_eq hok h3 h4
  obtain ⟨pl, cl, rfl, hc⟩ := h2.shape4
  have hs : d.size = (lotsL code b.2.1).length := by rw [← he]; simp
  refine ⟨pl, cl, by rw [← hs]; exact h1, fun j l hj => ?_, h5⟩
  have hj2 : j < d.size := by rw [hs]; exact (List.getElem?_eq_some_iff.1 hj).1
  obtain ⟨g, e1, e2⟩ := hc j hj2
  have e3 : d[j]! = l := by
   rw [← he] at hj
   rw [getElem!_pos d j hj2]
   obtain ⟨_, e9⟩ := List.getElem?_eq_some_iff.1 hj
   simpa using e9
  rw [e3] at e2
  exact ⟨g, e1, cell_lt e2.1, e2⟩
 have HLi : Hid (∀ l ∈ lotsL code b.2.1, l.1.size ≤ maxLen ∧ 0 ≤ heldB b l.1 ∧ heldB b l.1 ≤ ofL b.2.2 l.1) := fun l hl => by
  have h1 := hpm.mem_iff.1 hl
  unfold lotsOf at h1
  obtain ⟨z, hz, rfl⟩ := List.mem_map.1 h1
  have hz1 := (List.mem_filter.1 hz).1
  refine ⟨h.sizeL hz1, ?_⟩
  rw [(lot_there hok hz1).2.2]
  exact hok.wf.held z hz1
 have HHd : Hid (∀ W c, c.size ≤ maxLen → Below w.heap.size w W → Calls Tryz.prog 72 #[.pointer (some ⟨x.p, 0, none⟩), .string c] W fun e w' => e = .returned (.int .i64 (heldB b c)) ∧ w' = W) := fun W c hc hb => bheld_any c W B x b (h.below hb) hc
 have HM : Hid (PosP b.2.2 ∧ b.2.2.length ≤ 200 ∧ ∀ c, 0 ≤ ofL b.2.2 c ∧ ofL b.2.2 c ≤ 1099511627776) := ⟨fun p hp => hok.wf.st.pos p hp, hok.wf.st.len, fun c => ⟨ofL_nonneg (fun y hy => hok.wf.st.pos y hy) _, hok.wf.st.most _⟩⟩
 have HPl : Hid (planAll b code day = readyL b.2.2 (goodP b day (lotsL code b.2.1))) := rfl
 have hL59 : (lotsL code b.2.1).length ≤ 59 := by
  rw [hpm.length_eq]
  exact Nat.le_trans (lotsOf_le _ _) h59
 have HGp : Hid (∀ k l, (lotsL code b.2.1)[k]? = some l → goodP b day ((lotsL code b.2.1).take (k + 1)) = goodP b day ((lotsL code b.2.1).take k) ++ (if day ≤ l.2.2.1 then [(l.1, heldB b l.1)] else [])) := fun k l hl => goodP_succ hl
 have HGl : Hid (∀ k, (goodP b day ((lotsL code b.2.1).take k)).length ≤ k) := goodP_len b day _
 generalize hLL : lotsL code b.2.1 = L at *
 generalize planAll b code day = PA at *
 generalize goodP b day = GP at *
 generalize heldB b = hd at *
 generalize b.2.2 = m at *
 clear hok hpm h h59 hLL
 go_enter Tryz.func31, Tryz.ntmps31
 go_wp2_with (first
  | (go_at_call 67; refine HSt.out.mono ?_; rintro e w1 ⟨p', b', rfl, hN⟩; have HN : Hid (NewSt w w1 p' b' m) := hN; have HLn : Hid (Calls Tryz.prog 43 _ w1 _) := lines_any w1 p' b' m hN.st; clear hN)
  | (go_at_call 43; refine HLn.out.mono ?_; rintro e w2 ⟨gl, cpl, rfl, _, hrn, hb2⟩; have HB2 : Hid (Below w.heap.size w w2) := HN.out.below.trans (hb2.mono HN.out.below.size); have HRn : Hid (RowN w2 gl m) := hrn; have HS2 : Hid (IsStock w2 p' b' m) := HN.out.st.all hb2; clear hrn hb2)
  | (go_at_call 68; refine (HLt.out _ HB2.out).mono ?_; rintro e w3 ⟨pl, cl, rfl, hlc, hb3⟩; have HB3 : Hid (Below w.heap.size w w3) := HB2.out.trans (hb3.mono HB2.out.size); have HR3 : Hid (RowN w3 gl m) := HRn.out.below hb3; have HS3 : Hid (IsStock w3 p' b' m) := HS2.out.all hb3; have HLc : Hid (∀ j l, L[j]? = some l → ∃ g, pl = some ⟨g, 0, none⟩ ∧ g < w3.heap.size ∧ LotC w3 g (j * 4) l) := hlc; clear hlc hb3))
 obtain ⟨ln, hln⟩ : ∃ ln, L.length = ln := ⟨_, rfl⟩
 have HLen : Hid (L.length = ln) := hln
 rw [hln] at hL59 ⊢
 clear hln
 go_loopw [9, 20] (fun vp vi wr => ∃ (k : Nat) (vv : Value), k ≤ ln ∧ vi = .int .i64 k ∧ vv = vp ∧ encLn.Row wr w3.heap.size 60 vv (readyL m (GP (L.take k))) ∧ Below w3.heap.size w3 wr) (fun _ vi _ => ln - (RowKit.intOf vi).toNat)
 case atStart => exact ⟨0, _, Nat.zero_le _, rfl, rfl, by
  have e : GP (L.take 0) = [] := List.eq_nil_of_length_eq_zero (Nat.le_zero.1 (HGl.out 0))
  rw [e]; exact Enc.Row.nil _ _ _ _, Below.refl _ _⟩
 case round =>
  obtain ⟨k, vout, hk, rfl, rfl, hrow, hwr⟩ := hrel
  by_cases hlt : k < ln
  ·obtain ⟨l, hl⟩ : ∃ l, L[k]? = some l := ⟨_, List.getElem?_eq_getElem (by rw [HLen.out]; exact hlt)⟩
   obtain ⟨g, rfl, hgl, hlc⟩ := HLc.out k l hl
   have hB3 := HB3.out
   have hwwr : Below w.heap.size w wr := hB3.trans (hwr.mono hB3.size)
   obtain ⟨c0, c1, c2, c3⟩ := hlc.below hwr
   obtain ⟨z1, z2, z3⟩ := HLi.out l (List.mem_of_getElem? hl)
   have hGp := HGp.out k l hl
   have hGl := HGl.out k
   have nA := heap_alloc_new wr (.cells #[.string l.1, .string l.2.1, .int .i64 l.2.2.1, .int .i64 l.2.2.2] 40)
   have bA : Below wr.heap.size wr (wr.alloc (.cells #[.string l.1, .string l.2.1, .int .i64 l.2.2.1, .int .i64 l.2.2.2] 40)) := (Below.refl _ wr).alloc (Nat.le_refl _) _
   obtain ⟨wA, hA⟩ : ∃ wA, wr.alloc (.cells #[.string l.1, .string l.2.1, .int .i64 l.2.2.1, .int .i64 l.2.2.2] 40) = wA := ⟨_, rfl⟩
   rw [hA] at nA bA
   obtain ⟨d0, d1, d2, d3⟩ := cells4' nA
   have hbox : wr.heap.size < wA.heap.size := (Array.getElem?_eq_some_iff.1 nA).1
   have HBx : Hid (∀ W, Below wA.heap.size wA W → W.cell? ⟨wr.heap.size, 0, none⟩ = some (.string l.1)) := fun W hb => cell_blk4 ((hb.block _ hbox).trans nA)
   have HGd : Hid (Calls Tryz.prog 69 _ wA _) := good_any l day wA
   have HWA : Hid (Below w3.heap.size w3 wA) := hwr.trans (bA.mono hwr.size)
   have HWW : Hid (Below w.heap.size w wA) := hwwr.trans (bA.mono hwwr.size)
   have HRow : Hid (encLn.Row wA w3.heap.size 60 vout (readyL m (GP (L.take k)))) := hrow.below bA
   have HVl : Hid (∀ g0, vout.ownBlock = some g0 → g0 < wr.heap.size) := fun g0 hg0 => (hrow.lt hg0).2
   obtain ⟨hm1, hm2, hm3⟩ := HM.out
   have hrl : (readyL m (GP (L.take k))).length ≤ 11800 := by
    have h1 := ready_len (m := m) (GP (L.take k))
    have h2 : (GP (L.take k)).length * m.length ≤ 59 * 200 := Nat.mul_le_mul (by omega) hm2
    omega
   have hll : (linesOf m l.1).length ≤ 200 := Nat.le_trans (linesOf_length m l.1) hm2
   have hpl : PosP (linesOf m l.1) := fun p hp => hm1 p (List.mem_filter.1 hp).1
   obtain ⟨o1, o2⟩ := hm3 l.1
   unfold agL at HGd
   by_cases hday : day ≤ l.2.2.1
   ·rw [decide_eq_true hday] at HGd
    rw [if_pos hday] at hGp
    have HE : Hid (readyL m (GP (L.take (k + 1))) = readyL m (GP (L.take k)) ++ takeP (linesOf m l.1) (ofL m l.1 - hd l.1)) := by
     show _ = _
     rw [hGp, readyL_app]
    have HPk : Hid (∀ W, Below wA.heap.size wA W → Calls Tryz.prog 70 #[.slice (some ⟨gl, 0, none⟩) m.length cpl, .string l.1] W fun e w' => ∃ v', e = .returned v' ∧ encLn.Row w' W.heap.size 60 v' (linesOf m l.1) ∧ Below W.heap.size W w') := fun W hb => picksOf_any W _ m l.1 (Or.inr ⟨gl, cpl, rfl, HR3.out.below (HWA.out.trans (hb.mono HWA.out.size))⟩) (by omega)
    have HOf : Hid (∀ W, Below wA.heap.size wA W → Calls Tryz.prog 71 #[.pointer (some ⟨p', 0, none⟩), .string l.1] W fun e w' => e = .returned (.int .i64 (ofL m l.1)) ∧ Below W.heap.size W w') := fun W hb => of_any l.1 W p' b' m (HS3.out.all (HWA.out.trans (hb.mono HWA.out.size)))
    have HHe : Hid (∀ W, Below wA.heap.size wA W → Calls Tryz.prog 72 #[.pointer (some ⟨x.p, 0, none⟩), .string l.1] W fun e w' => e = .returned (.int .i64 (hd l.1)) ∧ w' = W) := fun W hb => HHd.out W l.1 z1 (HWW.out.trans (hb.mono HWW.out.size))
    have HGo : Hid (∀ W v4, Below wA.heap.size wA W → (∃ W0, wA.heap.size ≤ W0 ∧ encLn.Row W W0 60 v4 (linesOf m l.1)) → Calls Tryz.prog 33 #[vout, v4, .int .i64 (ofL m l.1 - hd l.1)] W fun e w' => ∃ v', e = .returned v' ∧ encLn.Row w' w3.heap.size 60 v' (readyL m (GP (L.take (k + 1)))) ∧ Below w3.heap.size w3 w' ∧ w'.cell? ⟨wr.heap.size, 0, none⟩ = some (.string l.1)) := fun W v4 hb ⟨W0, hW0, hr4⟩ => by
     refine (goOn_any W w3.heap.size vout v4 _ _ _ (Nat.le_trans HWA.out.size hb.size) (HRow.out.below hb) (rowV_of hr4) (fun g0 hg0 hu0 => ?_) hpl (by omega) (by omega) (by omega)).mono ?_
     ·have h1 := (hr4.lt hg0).1
      have h2 := HVl.out g0 hu0
      omega
     ·rintro e w' ⟨v', rfl, h1, h2, h3⟩
      refine ⟨v', rfl, by rw [HE.out]; exact h1, (HWA.out.trans (hb.mono HWA.out.size)).trans h2, ?_⟩
      have h9 := h3 wr.heap.size (Nat.lt_of_lt_of_le hbox hb.size) (fun e => by have := HVl.out _ e; omega)
      exact cell_blk4 (h9.trans ((hb.block _ hbox).trans nA))
    clear hrow hwr hwwr nA bA hGp hGl hm1 hm2 hm3 hrl hll hpl hl hlc z1 hB3
    generalize ofL m l.1 = oN at *
    generalize hd l.1 = hN at *
    generalize linesOf m l.1 = lns at *
    have hwrp : IntKind.i64.wrap (oN - hN) = oN - hN := by rw [IntKind.wrap_i64]; omega
    go_wp2_with (go_at_call 69; refine HGd.out.mono ?_; clear HGd; rintro e w4 ⟨rfl, hb4⟩; have HB4 : Hid (Below wA.heap.size wA w4) := hb4; have HB4d : Hid (Below wA.heap.size wA w4.drew) := hb4.drew; have x0 := HBx.out w4 hb4; have x0d := HBx.out w4.drew hb4.drew; clear hb4)
    go_region_held3 (fun w' => w'.cell? ⟨wr.heap.size, 0, none⟩ = some (.string l.1)) (go_keep)
     (first
      | (go_at_call 70; refine (HPk.out _ HB4d.out).mono ?_; rintro e w5 ⟨v4, rfl, hr5, hb5⟩; have HB5 : Hid (Below wA.heap.size wA w5) := HB4d.out.trans (hb5.mono HB4d.out.size); have HR5 : Hid (∃ W0, wA.heap.size ≤ W0 ∧ encLn.Row w5 W0 60 v4 lns) := ⟨_, HB4d.out.size, hr5⟩; have x5 := HBx.out w5 HB5.out; clear hr5 hb5)
      | (go_at_call 71; refine (HOf.out _ HB5.out).mono ?_; rintro e w6 ⟨rfl, hb6⟩; have HB6 : Hid (Below wA.heap.size wA w6) := HB5.out.trans (hb6.mono HB5.out.size); have HR6 : Hid (∃ W0, wA.heap.size ≤ W0 ∧ encLn.Row w6 W0 60 v4 lns) := (by obtain ⟨W0, h1, h2⟩ := HR5.out; exact ⟨W0, h1, h2.below hb6⟩); have x6 := HBx.out w6 HB6.out; clear hb6)
      | (go_at_call 72; refine (HHe.out _ HB6.out).mono ?_; rintro e w7 ⟨rfl, hw⟩; have hw' := hw.symm; subst hw')
      | (go_at_call 33; refine (HGo.out _ v4 HB6.out HR6.out).mono ?_; rintro e w8 ⟨v8, rfl, hr8, hb8, x8⟩; have HR8 : Hid (encLn.Row w8 w3.heap.size 60 v8 (readyL m (GP (L.take (k + 1))))) := hr8; have HB8 : Hid (Below w3.heap.size w3 w8) := hb8; clear hr8 hb8))
    go_wp2
    go_roundw
    case rel => exact ⟨k + 1, _, by omega, by go_num, rfl, HR8.out, HB8.out⟩
    case measure => simp [RowKit.intOf]; omega
   ·rw [decide_eq_false hday] at HGd
    rw [if_neg hday, List.append_nil] at hGp
    have HE : Hid (GP (L.take (k + 1)) = GP (L.take k)) := hGp
    clear hrow hwr hwwr nA bA hGp hGl hm1 hm2 hm3 hrl hll hpl hl hlc z1 hB3
    go_wp2_with (go_at_call 69; refine HGd.out.mono ?_; clear HGd; rintro e w4 ⟨rfl, hb4⟩; have HB4 : Hid (Below wA.heap.size wA w4) := hb4; clear hb4)
    go_roundw
    case rel => exact ⟨k + 1, _, by omega, by go_num, rfl, by rw [HE.out]; exact HRow.out.below HB4.out, HWA.out.trans (HB4.out.mono HWA.out.size)⟩
    case measure => simp [RowKit.intOf]; omega
  ·have hkn : k = ln := by omega
   subst hkn
   have e : L.take k = L := List.take_of_length_le (by rw [HLen.out]; exact Nat.le_refl _)
   rw [e] at hrow
   have HB := HB3.out
   have HRes : Hid (encLn.Row wr w.heap.size 60 vout PA) := by
    rw [HPl.out]
    exact hrow.base HB.size
   have HBw : Hid (Below w.heap.size w wr) := HB.trans (hwr.mono HB.size)
   clear hrow hwr HB
   go_wp2
   go_ret
   exact ⟨_, rfl, HRes.out, HBw.out⟩
end Go.Proofs.YtefkchmahcjleaaGreatDoor
namespace Go.Proofs.YtefkchmahcjleaaGreatDoor
open Go.Lib Go.Sort
theorem ready_lot {m : List Ln} (hp : PosP m) (c' : ByteArray) : ∀ {ls : List (ByteArray × Int)}, LsOk m ls → ofL (readyL m ls) c' = ((ls.filter fun x => decide (x.1 = c')).map fun x => ofL m x.1 - x.2).sum
 | [], _ => rfl
 | (c, h) :: ls, hl => by
  have hh := hl.held (c, h) (List.mem_cons_self ..)
  simp only at hh
  have hF : PosP (linesOf m c) := fun p hq => hp p (List.mem_filter.1 hq).1
  have hL : PosP (takeP (linesOf m c) (ofL m c - h)) := takeP_pos hF (by omega)
  have ih := ready_lot hp c' hl.tail
  have key : ∀ l : List Ln, (∀ q ∈ l, q.2.1 = c) → ofL l c' = if c = c' then sumP l else 0 := by
   intro l
   induction l with
   | nil => intro _; unfold sumP; simp [ofL_nil]
   | cons q l ih =>
    intro hq
    rw [ofL_cons, ih fun x hx => hq x (List.mem_cons_of_mem _ hx), hq q (List.mem_cons_self ..), sumP_cons]
    split <;> omega
  have hc : ∀ q ∈ takeP (linesOf m c) (ofL m c - h), q.2.1 = c := fun q hq => by
   obtain ⟨p, h1, h2, _⟩ := takeP_keys hq
   have h3 : p.2.1 = c := by simpa using (List.mem_filter.1 h1).2
   have : p.2.1 = q.2.1 := congrArg Prod.snd h2
   rw [← this, h3]
  show ofL (takeP _ _ ++ readyL m ls) c' = _
  rw [ofL_append, ih, key _ hc, takeP_sum hF (by omega), linesOf_sum, List.filter_cons]
  by_cases e : c = c'
  ·rw [if_pos e, if_pos (by simpa using e), List.map_cons, List.sum_cons]
   show min (ofL m c) (ofL m c - h) + _ = ofL m c - h + _
   omega
  ·rw [if_neg e, if_neg (by simpa using e)]; omega
theorem ready_most {m : List Ln} (hp : PosP m) : ∀ {ls : List (ByteArray × Int)} {c h : _}, LsOk m ls → 0 ≤ h → h ≤ ofL m c → (∀ x ∈ ls, x.1 = c → x.2 = h) → ofL (readyL m ls) c ≤ ofL m c - h := fun {ls c h} hl h0 h1 hx => by
 rw [ready_lot hp c hl]
 have key : ∀ ls' : List (ByteArray × Int), (ls'.map fun x => x.1).Nodup → (∀ x ∈ ls', x.1 = c → x.2 = h) → ((ls'.filter fun x => decide (x.1 = c)).map fun x => ofL m x.1 - x.2).sum ≤ ofL m c - h := by
  intro ls'
  induction ls' with
  | nil => intro _ _; show (0 : Int) ≤ _; omega
  | cons x ls' ih =>
   intro hn hx
   obtain ⟨n1, n2⟩ := List.nodup_cons.1 hn
   rw [List.filter_cons]
   by_cases e : x.1 = c
   ·rw [if_pos (by simpa using e), List.map_cons, List.sum_cons]
    have : (ls'.filter fun x => decide (x.1 = c)) = [] := List.filter_eq_nil_iff.2 fun y hy => by
     simp only [decide_eq_true_eq]
     exact fun e9 => n1 (List.mem_map.2 ⟨y, hy, e9.trans e.symm⟩)
    rw [this, e, hx x (List.mem_cons_self ..) e]
    show _ + (0 : Int) ≤ _
    omega
   ·rw [if_neg (by simpa using e)]
    exact ih n2 fun y hy => hx y (List.mem_cons_of_mem _ hy)
 exact key ls hl.once hx
theorem ofL_take : ∀ {l : List Ln} {n : Int} (c : ByteArray), PosP l → 0 ≤ n → ofL (takeP l n) c ≤ ofL l c
 | [], _, _, _, _ => Int.le_refl _
 | p :: l, n, c, h, hn => by
  have h1 := h.head
  by_cases h0 : n = 0
  ·rw [h0, takeP_zero]; exact ofL_nonneg (fun x hx => h x hx) c
  ·rw [takeP_cons h0, ofL_cons, ofL_cons]
   have ih := ofL_take (n := n - min p.2.2 n) c h.tail (by omega)
   show (if p.2.1 = c then min p.2.2 n else 0) + _ ≤ _
   by_cases hk : p.2.1 = c
   ·rw [if_pos hk, if_pos hk]; omega
   ·rw [if_neg hk, if_neg hk]; omega
structure Goes (b : Bk) (code : ByteArray) (day n : Int) (i : Nat) (g : Gs) : Prop where
 fine : allFine b (takeP (planAll b code day) n)
 ok : BkOk (bkOuts b (takeP (planAll b code day) n))
 is_ : bkOuts b (takeP (planAll b code day) n) = (b.1.set i (g.1, (g.2.1, g.2.2.1 + n, g.2.2.2.1, g.2.2.2.2)), b.2.1, outsM b.2.2 (takeP (planAll b code day) n))
 wf : Wf (outsM b.2.2 (takeP (planAll b code day) n))
 at_ : ∀ k, atL (outsM b.2.2 (takeP (planAll b code day) n)) k = atL b.2.2 k - remK (takeP (planAll b code day) n) k
theorem goes_of {b : Bk} (hok : BkOk b) {code : ByteArray} {day n : Int} {i : Nat} {g : Gs} (hg : b.1[i]? = some g) (hgn : nameG g = code) (h0 : 0 ≤ n) (hn : n ≤ sumP (planAll b code day)) (hsu : g.2.2.1 + n ≤ mostS) : Goes b code day n i g := by
 have hp : PosP b.2.2 := fun p hq => hok.wf.st.pos p hq
 have hls := goodLs_ok hok code day
 have hA : PosP (planAll b code day) := readyL_pos hp hls.held
 have hT : PosP (takeP (planAll b code day) n) := takeP_pos hA h0
 have hS : sumP (takeP (planAll b code day) n) = n := by rw [takeP_sum hA h0]; omega
 have hk : ∀ k, remK (takeP (planAll b code day) n) k ≤ atL b.2.2 k := fun k => by
  have h1 := remK_take (n := n) k hA h0
  have h2 := ready_at hok.wf.st.sorted hp k hls
  have h3 := hok.wf.st.at_nonneg k
  unfold planAll at h1 ⊢
  split at h2 <;> omega
 obtain ⟨w1, w2⟩ := outs_wf hok.wf.st hT hk
 obtain ⟨o1, o2, o3⟩ := outs_do (code := code) (p := takeP (planAll b code day) n) hok hg hgn hT (fun q hq => by
  obtain ⟨q', h1, h2, _⟩ := takeP_keys hq
  obtain ⟨⟨x, hx, e⟩, _⟩ := readyL_lots h1
  obtain ⟨l, hl, e1, e2, _⟩ := goodLs_mem hok hx
  have e3 : q'.2.1 = q.2.1 := congrArg Prod.snd h2
  exact ⟨l, hl, e1.trans (e.trans e3), e2⟩) hk (fun l hl => by
  have h1 := ofL_take (n := n) l.1.1 hA h0
  have h2 := hok.wf.held l hl
  have h3 := ready_most hp (c := l.1.1) hls h2.1 h2.2 (fun x hx e => by
   obtain ⟨l', hl', e1, _, e3⟩ := goodLs_mem hok hx
   have : l' = l := name_uniq hok.ls hl' hl (e1.trans e)
   rw [← e3, this])
  unfold planAll at h1 ⊢
  omega) (by rw [hS]; exact hsu)
 rw [hS] at o3
 exact ⟨o1, o2, o3, w1, w2⟩
theorem plan_next {b : Bk} (hok : BkOk b) {code : ByteArray} {day n : Int} {i : Nat} {g : Gs} (h0 : 0 ≤ n) (h : Goes b code day n i g) : planAll (bkOuts b (takeP (planAll b code day) n)) code day = dropP (planAll b code day) n := by
 have hp : PosP b.2.2 := fun p hq => hok.wf.st.pos p hq
 have e : goodLs (bkOuts b (takeP (planAll b code day) n)) code day = goodLs b code day := by
  have e1 : (bkOuts b (takeP (planAll b code day) n)).2.1 = b.2.1 := by rw [h.is_]
  unfold goodLs heldB
  rw [e1]
 have e2 : (bkOuts b (takeP (planAll b code day) n)).2.2 = outsM b.2.2 (takeP (planAll b code day) n) := by rw [h.is_]
 show readyL (bkOuts b (takeP (planAll b code day) n)).2.2 (goodLs (bkOuts b (takeP (planAll b code day) n)) code day) = _
 rw [e, e2]
 exact ready_behind hok.wf.st.sorted hp h.wf.sorted (fun p hq => h.wf.pos p hq) (goodLs_ok hok code day) h0 fun k _ => h.at_ k
theorem parts_same {b : Bk} (hok : BkOk b) {code : ByteArray} {day n n' : Int} {i : Nat} {g : Gs} (hg : b.1[i]? = some g) (hgn : nameG g = code) (h0 : 0 ≤ n) (h0' : 0 ≤ n') (hn : n + n' ≤ sumP (planAll b code day)) (hsu : g.2.2.1 + (n + n') ≤ mostS) :
  let b1 := bkOuts b (takeP (planAll b code day) n)
  Goes b code day (n + n') i g ∧ Goes b code day n i g ∧ sumP (planAll b1 code day) = sumP (planAll b code day) - n ∧ Goes b1 code day n' i (g.1, (g.2.1, g.2.2.1 + n, g.2.2.2.1, g.2.2.2.2)) ∧ bkOuts b (takeP (planAll b code day) (n + n')) = bkOuts b1 (takeP (planAll b1 code day) n') := by
 intro b1
 have hp : PosP b.2.2 := fun p hq => hok.wf.st.pos p hq
 have hA : PosP (planAll b code day) := readyL_pos hp (goodLs_ok hok code day).held
 have G := goes_of hok (day := day) hg hgn (show 0 ≤ n + n' by omega) hn hsu
 have G1 := goes_of hok (day := day) hg hgn h0 (show n ≤ _ by omega) (by omega)
 have e1 := plan_next hok h0 G1
 have hs1 : sumP (planAll b1 code day) = sumP (planAll b code day) - n := by
  show sumP (planAll (bkOuts b (takeP (planAll b code day) n)) code day) = _
  rw [e1, dropP_sum hA h0]; omega
 obtain ⟨hi, _⟩ := List.getElem?_eq_some_iff.1 hg
 have hg1 : b1.1[i]? = some (g.1, (g.2.1, g.2.2.1 + n, g.2.2.2.1, g.2.2.2.2)) := by
  show (bkOuts b (takeP (planAll b code day) n)).1[i]? = _
  rw [G1.is_, List.getElem?_set, if_pos rfl, if_pos hi]
 have G2 := goes_of (b := b1) (day := day) G1.ok hg1 hgn h0' (by omega) (by show g.2.2.1 + n + n' ≤ mostS; omega)
 refine ⟨G, G1, hs1, G2, ?_⟩
 rw [G.is_, G2.is_]
 have e2 : b1 = (b.1.set i (g.1, (g.2.1, g.2.2.1 + n, g.2.2.2.1, g.2.2.2.2)), b.2.1, outsM b.2.2 (takeP (planAll b code day) n)) := G1.is_
 have e3 : b1.1.set i (g.1, (g.2.1, g.2.2.1 + n + n', g.2.2.2.1, g.2.2.2.2)) = b.1.set i (g.1, (g.2.1, g.2.2.1 + (n + n'), g.2.2.2.1, g.2.2.2.2)) := by
  rw [e2]
  show (b.1.set i _).set i _ = _
  rw [List.set_set, Int.add_assoc]
 have e4 : outsM b1.2.2 (takeP (planAll b1 code day) n') = outsM b.2.2 (takeP (planAll b code day) (n + n')) := by
  refine wf_ext G2.wf G.wf fun k => ?_
  rw [G2.at_, G.at_]
  have e5 : b1.2.2 = outsM b.2.2 (takeP (planAll b code day) n) := by rw [e2]
  rw [e5, G1.at_]
  have e6 : planAll b1 code day = dropP (planAll b code day) n := e1
  rw [e6]
  -- the first n and the next n' are the first of both
  have e7 : ∀ {l : List Ln}, PosP l → ∀ {a c : Int}, 0 ≤ a → 0 ≤ c → remK (takeP l a) k + remK (takeP (dropP l a) c) k = remK (takeP l (a + c)) k := by
   intro l
   induction l with
   | nil => intro _ a c _ _; rfl
   | cons p l ih =>
    intro hl a c ha hc
    have h1 := hl.head
    by_cases ha0 : a = 0
    ·subst ha0
     rw [takeP_zero, dropP_zero hl, Int.zero_add]
     have z : remK [] k = 0 := rfl
     omega
    ·rw [takeP_cons ha0, takeP_cons (show a + c ≠ 0 by omega), remK_cons, remK_cons]
     show (if keyL p = k then min p.2.2 a else 0) + _ + remK (takeP (if p.2.2 ≤ a then _ else _) c) k = (if keyL p = k then min p.2.2 (a + c) else 0) + _
     by_cases hpa : p.2.2 ≤ a
     ·rw [if_pos hpa, show min p.2.2 a = p.2.2 by omega, show min p.2.2 (a + c) = p.2.2 by omega]
      have := ih hl.tail (a := a - p.2.2) (c := c) (by omega) hc
      rw [show a + c - p.2.2 = a - p.2.2 + c by omega]
      omega
     ·rw [if_neg hpa, show min p.2.2 a = a by omega, show a - a = 0 by omega, takeP_zero]
      have z : remK [] k = 0 := rfl
      rw [z]
      by_cases hc0 : c = 0
      ·subst hc0
       rw [takeP_zero, z, show a + 0 = a by omega, show min p.2.2 a = a by omega, show a - a = 0 by omega, takeP_zero, z]; omega
      ·rw [takeP_cons hc0, remK_cons]
       have e8 : keyL ((p.1, p.2.1, min (p.2.2 - a) c) : Ln) = keyL p := rfl
       show _ + 0 + ((if keyL p = k then min (p.2.2 - a) c else 0) + remK (takeP l (c - min (p.2.2 - a) c)) k) = _
       rw [show c - min (p.2.2 - a) c = a + c - min p.2.2 (a + c) by omega]
       by_cases hk : keyL p = k
       ·rw [if_pos hk, if_pos hk, if_pos hk]; omega
       ·rw [if_neg hk, if_neg hk, if_neg hk]; omega
  have := e7 hA (a := n) (c := n') h0 h0'
  omega
 rw [← e3, e4]
 have e9 : b1.2.1 = b.2.1 := by rw [e2]
 rw [e9]
end Go.Proofs.YtefkchmahcjleaaGreatDoor
namespace Go.Proofs.YtefkchmahcjleaaGreatDoor
open Go.RowKit Go.Lib Go.Sort
def planE (b : Bk) (code : ByteArray) (n day : Int) : Nat := if 1 ≤ n ∧ n ≤ 1099511627776 ∧ 0 ≤ day ∧ day ≤ 100000 then (if isGoods b code = true then (if n ≤ sumP (planAll b code day) then 0 else 9) else 6) else 2
def planL (b : Bk) (code : ByteArray) (n day : Int) : List Ln := if planE b code n day = 0 then takeP (planAll b code day) n else []
structure Ps (w : World) (s : Nat → Addr) : Prop where
 bound : w.cell? ⟨1, 0, none⟩ = some (err (s 1))
 none_ : w.cell? ⟨2, 0, none⟩ = some (err (s 5))
 short : w.cell? ⟨3, 0, none⟩ = some (err (s 8))
theorem Ps.below {w w' : World} {s : Nat → Addr} (h : Ps w s) (hb : Below w.heap.size w w') : Ps w' s where
 bound := by rw [hb.cell (p := ⟨1, 0, none⟩) (cell_lt h.bound)]; exact h.bound
 none_ := by rw [hb.cell (p := ⟨2, 0, none⟩) (cell_lt h.none_)]; exact h.none_
 short := by rw [hb.cell (p := ⟨3, 0, none⟩) (cell_lt h.short)]; exact h.short
theorem Sent.ps {w : World} {s : Nat → Addr} (h : Sent w s) : Ps w s := ⟨h.cell 1 (by decide), h.cell 5 (by decide), h.cell 8 (by decide)⟩
theorem plan_bound (code : ByteArray) (n day : Int) (w : World) (s : Nat → Addr) (p : Nat) (hs : Ps w s) (hx : ¬ (1 ≤ n ∧ n ≤ 1099511627776 ∧ 0 ≤ day ∧ day ≤ 100000)) :
  Calls Tryz.prog 9 #[.pointer (some ⟨p, 0, none⟩), .string code, .int .i64 n, .int .i64 day] w fun e w' => e = .returned (.tuple #[.slice none 0 0, err (s 1)]) ∧ Below w.heap.size w w' := by
 have HS : Hid (∀ W, Below w.heap.size w W → Ps W s) := fun W hb => hs.below hb
 by_cases h1 : n < 1
 ·have g1 := hs.bound
  clear hx hs
  go_enter Tryz.func9, Tryz.ntmps9
  go_wp2
  go_quiet (fail)
  go_wp2
  go_ret2
  exact ⟨rfl, below_drewN (Below.refl _ _) nq⟩
 ·by_cases h2 : 1099511627776 < n
  ·have g1 := hs.bound
   clear hx hs
   go_enter Tryz.func9, Tryz.ntmps9
   go_wp2
   go_quiet (fail)
   go_wp2
   go_ret2
   exact ⟨rfl, below_drewN (Below.refl _ _) nq⟩
  ·have hd : (decide (0 ≤ day) && decide (day ≤ 100000)) = false := by
    by_cases h3 : 0 ≤ day
    ·have h4 : ¬ day ≤ 100000 := fun h4 => hx ⟨by omega, by omega, h3, h4⟩
     rw [decide_eq_false h4]; simp
    ·rw [decide_eq_false h3]; rfl
   have hD := dayWell_any day w
   rw [hd] at hD
   have HD : Hid (Calls Tryz.prog 29 _ w _) := hD
   clear hx hs hd hD
   go_enter Tryz.func9, Tryz.ntmps9
   go_wp2_with (go_at_call 29; refine HD.out.mono ?_; rintro e w1 ⟨rfl, hb1⟩; have HB1 : Hid (Below w.heap.size w w1) := hb1; have g1 := (HS.out w1 hb1).bound; clear hb1)
   go_quiet (fail)
   go_wp2
   go_ret2
   exact ⟨rfl, below_drewN HB1.out nq⟩
theorem plan_well (code : ByteArray) (n day : Int) (w : World) (s : Nat → Addr) (B : Nat) (x : Bl) (b : Bk) (h : IsBk w B x b) (hs : Ps w s) (hcz : code.size ≤ maxLen) (h59 : b.2.1.length ≤ 59) (h1 : 1 ≤ n) (h2 : n ≤ 1099511627776) (h3 : 0 ≤ day) (h4 : day ≤ 100000) :
  Calls Tryz.prog 9 #[.pointer (some ⟨x.p, 0, none⟩), .string code, .int .i64 n, .int .i64 day] w fun e w' => ∃ v, e = .returned (.tuple #[v, errP s (planE b code n day)]) ∧ encLn.Row w' w.heap.size 60 v (planL b code n day) ∧ Below w.heap.size w w' := by
 have HS : Hid (∀ W, Below w.heap.size w W → Ps W s) := fun W hb => hs.below hb
 have hD := dayWell_any day w
 rw [decide_eq_true h3, decide_eq_true h4] at hD
 have HD : Hid (Calls Tryz.prog 29 _ w _) := hD
 have HG : Hid (∀ W, Below w.heap.size w W → Calls Tryz.prog 30 #[.pointer (some ⟨x.p, 0, none⟩), .string code] W fun e w' => e = .returned (.tuple #[agG (goodsAt b code), .bool (isGoods b code)]) ∧ Below W.heap.size W w') := fun W hb => bgoodsOf_any code W B x b (h.below hb) hcz
 have HR : Hid (∀ W, Below w.heap.size w W → Calls Tryz.prog 31 #[.pointer (some ⟨x.p, 0, none⟩), .string code, .int .i64 day] W fun e w' => ∃ v, e = .returned v ∧ encLn.Row w' W.heap.size 60 v (planAll b code day) ∧ Below W.heap.size W w') := fun W hb => ready_any code day W B x b (h.below hb) h59
 have hok := h.ok
 have hA : PosP (planAll b code day) := readyL_pos (fun p hq => hok.wf.st.pos p hq) (goodLs_ok hok code day).held
 have hsum : sumP (planAll b code day) ≤ 65970697666560 := by
  have h5 := plan_has hok code day
  have h6 := (hasL_bound hok.wf.st code b.2.1).2
  have h7 : (b.2.1.length : Int) * 1099511627776 ≤ 60 * 1099511627776 := Int.mul_le_mul_of_nonneg_right (by omega) (by decide)
  omega
 have hs0 := sumP_nonneg hA
 have hlen : (planAll b code day).length ≤ 12000 := by
  have h5 := ready_len (m := b.2.2) (goodLs b code day)
  have h6 : (goodLs b code day).length ≤ 59 := by
   unfold goodLs
   rw [List.length_map]
   refine Nat.le_trans (List.length_filter_le _ _) ?_
   rw [(lotsL_perm hok code).length_eq]
   exact Nat.le_trans (lotsOf_le _ _) h59
  have h7 : (goodLs b code day).length * b.2.2.length ≤ 59 * 200 := Nat.mul_le_mul h6 hok.wf.st.len
  show (readyL b.2.2 (goodLs b code day)).length ≤ _
  omega
 have HPc : Hid (∀ W v, RowV W v (planAll b code day) → Calls Tryz.prog 32 #[v] W fun e w' => e = .returned (.int .i64 (sumP (planAll b code day))) ∧ Below W.heap.size W w') := fun W v hv => piecesP_any W v _ hv hA (by omega) (by omega)
 have HGo : Hid (∀ W v, RowV W v (planAll b code day) → Calls Tryz.prog 33 #[.slice none 0 0, v, .int .i64 n] W fun e w' => ∃ v', e = .returned v' ∧ encLn.Row w' W.heap.size 60 v' (takeP (planAll b code day) n) ∧ Below W.heap.size W w') := fun W v hv => (goOn_any W W.heap.size (.slice none 0 0) v [] _ n (Nat.le_refl _) (Enc.Row.nil _ _ _ _) hv (fun g _ e => by cases e) hA (by omega) (by omega) (by simp; omega)).mono fun e w' ⟨v', q1, q2, q3, _⟩ => ⟨v', q1, by simpa using q2, q3⟩
 have hpe : planE b code n day = if isGoods b code = true then (if n ≤ sumP (planAll b code day) then 0 else 9) else 6 := by unfold planE; rw [if_pos ⟨h1, h2, h3, h4⟩]
 unfold planL
 rw [hpe]
 generalize goodsAt b code = gd at *
 obtain ⟨g1, g2⟩ := gd
 unfold agG at HG
 simp only at HG
 generalize planAll b code day = PA at *
 generalize isGoods b code = ig at *
 generalize hSP : sumP PA = SP at *
 clear h hok hs hD hA hpe hlen hSP
 cases ig
 ·have e0 : (if false = true then (if n ≤ SP then 0 else 9) else 6 : Nat) = 6 := rfl
  rw [e0, errP_pos s (by decide), if_neg (by decide)]
  go_enter Tryz.func9, Tryz.ntmps9
  go_wp2_with (first
   | (go_at_call 29; refine HD.out.mono ?_; rintro e w1 ⟨rfl, hb1⟩; have HB1 : Hid (Below w.heap.size w w1) := hb1; clear hb1)
   | (go_at_call 30; refine (HG.out _ HB1.out).mono ?_; rintro e w2 ⟨rfl, hb2⟩; have HB2 : Hid (Below w.heap.size w w2) := HB1.out.trans (hb2.mono HB1.out.size); have HBA : Hid (Below w.heap.size w (w2.alloc (.cells #[.string g1, .int .i64 g2] 38))) := HB2.out.alloc HB2.out.size _; have q1 := (HS.out _ HBA.out).none_; clear hb2))
  go_quiet (fail)
  go_wp2
  go_ret2
  exact ⟨_, rfl, Enc.Row.nil _ _ _ _, below_drewN HBA.out nq⟩
 ·by_cases hn : n ≤ SP
  ·have e0 : (if true = true then (if n ≤ SP then 0 else 9) else 6 : Nat) = 0 := by rw [if_pos rfl, if_pos hn]
   rw [e0, errP_zero, if_pos rfl]
   go_enter Tryz.func9, Tryz.ntmps9
   go_wp2_with (first
    | (go_at_call 29; refine HD.out.mono ?_; rintro e w1 ⟨rfl, hb1⟩; have HB1 : Hid (Below w.heap.size w w1) := hb1; clear hb1)
    | (go_at_call 30; refine (HG.out _ HB1.out).mono ?_; rintro e w2 ⟨rfl, hb2⟩; have HB2 : Hid (Below w.heap.size w w2) := HB1.out.trans (hb2.mono HB1.out.size); have HBA : Hid (Below w.heap.size w (w2.alloc (.cells #[.string g1, .int .i64 g2] 38))) := HB2.out.alloc HB2.out.size _; clear hb2)
    | (go_at_call 31; refine (HR.out _ HBA.out).mono ?_; rintro e w3 ⟨v3, rfl, hr3, hb3⟩; have HB3 : Hid (Below w.heap.size w w3) := HBA.out.trans (hb3.mono HBA.out.size); have HV3 : Hid (RowV w3 v3 PA) := rowV_of hr3; clear hr3 hb3)
    | (go_at_call 32; refine (HPc.out _ _ HV3.out).mono ?_; rintro e w4 ⟨rfl, hb4⟩; have HB4 : Hid (Below w.heap.size w w4) := HB3.out.trans (hb4.mono HB3.out.size); have HV4 : Hid (RowV w4 v3 PA) := HV3.out.below hb4; clear hb4)
    | (go_at_call 33; refine (HGo.out _ _ HV4.out).mono ?_; rintro e w5 ⟨v5, rfl, hr5, hb5⟩; have HB5 : Hid (Below w.heap.size w w5) := HB4.out.trans (hb5.mono HB4.out.size); have HR5 : Hid (encLn.Row w5 w.heap.size 60 v5 (takeP PA n)) := hr5.base HB4.out.size; clear hr5 hb5))
   go_ret2
   exact ⟨_, rfl, HR5.out, HB5.out⟩
  ·have e0 : (if true = true then (if n ≤ SP then 0 else 9) else 6 : Nat) = 9 := by rw [if_pos rfl, if_neg hn]
   rw [e0, errP_pos s (by decide), if_neg (by decide)]
   go_enter Tryz.func9, Tryz.ntmps9
   go_wp2_with (first
    | (go_at_call 29; refine HD.out.mono ?_; rintro e w1 ⟨rfl, hb1⟩; have HB1 : Hid (Below w.heap.size w w1) := hb1; clear hb1)
    | (go_at_call 30; refine (HG.out _ HB1.out).mono ?_; rintro e w2 ⟨rfl, hb2⟩; have HB2 : Hid (Below w.heap.size w w2) := HB1.out.trans (hb2.mono HB1.out.size); have HBA : Hid (Below w.heap.size w (w2.alloc (.cells #[.string g1, .int .i64 g2] 38))) := HB2.out.alloc HB2.out.size _; clear hb2)
    | (go_at_call 31; refine (HR.out _ HBA.out).mono ?_; rintro e w3 ⟨v3, rfl, hr3, hb3⟩; have HB3 : Hid (Below w.heap.size w w3) := HBA.out.trans (hb3.mono HBA.out.size); have HV3 : Hid (RowV w3 v3 PA) := rowV_of hr3; clear hr3 hb3)
    | (go_at_call 32; refine (HPc.out _ _ HV3.out).mono ?_; rintro e w4 ⟨rfl, hb4⟩; have HB4 : Hid (Below w.heap.size w w4) := HB3.out.trans (hb4.mono HB3.out.size); have q1 := (HS.out _ HB4.out).short; clear hb4))
   go_quiet (fail)
   go_wp2
   go_ret2
   exact ⟨_, rfl, Enc.Row.nil _ _ _ _, below_drewN HB4.out nq⟩
theorem plan_any (code : ByteArray) (n day : Int) (w : World) (s : Nat → Addr) (B : Nat) (x : Bl) (b : Bk) (h : IsBk w B x b) (hs : Ps w s) (hcz : code.size ≤ maxLen) (h59 : b.2.1.length ≤ 59) :
  Calls Tryz.prog 9 #[.pointer (some ⟨x.p, 0, none⟩), .string code, .int .i64 n, .int .i64 day] w fun e w' => ∃ v, e = .returned (.tuple #[v, errP s (planE b code n day)]) ∧ encLn.Row w' w.heap.size 60 v (planL b code n day) ∧ Below w.heap.size w w' := by
 by_cases hx : 1 ≤ n ∧ n ≤ 1099511627776 ∧ 0 ≤ day ∧ day ≤ 100000
 ·exact plan_well code n day w s B x b h hs hcz h59 hx.1 hx.2.1 hx.2.2.1 hx.2.2.2
 ·have e : planE b code n day = 2 := by unfold planE; rw [if_neg hx]
  unfold planL
  rw [e, if_neg (by decide)]
  refine (plan_bound code n day w s x.p hs hx).mono ?_
  rintro e w' ⟨rfl, hb⟩
  exact ⟨_, rfl, Enc.Row.nil _ _ _ _, hb⟩
def flatE (l : List En) : List Value := l.flatMap encEn
theorem flatE_snoc (l : List En) (e : En) : flatE (l ++ [e]) = flatE l ++ encEn e := by unfold flatE; simp
theorem flatE_len (l : List En) : (flatE l).length = l.length * 14 := by
 unfold flatE
 induction l with
 | nil => rfl
 | cons x l ih => rw [List.flatMap_cons, List.length_append, ih, encEn_len, List.length_cons]; omega
theorem flatE_get : ∀ {l : List En} {i : Nat} {e : En} (c : Nat), l[i]? = some e → c < 14 → (flatE l)[i * 14 + c]? = (encEn e)[c]?
 | [], i, e, c, h, hc => by simp at h
 | y :: l, 0, e, c, h, hc => by
  obtain rfl : y = e := by simpa using h
  unfold flatE
  rw [List.flatMap_cons, List.getElem?_append_left (by rw [encEn_len]; omega)]
  simp
 | y :: l, i + 1, e, c, h, hc => by
  have h' : l[i]? = some e := by simpa using h
  have ih := flatE_get (l := l) c h' hc
  unfold flatE at *
  rw [List.flatMap_cons, List.getElem?_append_right (by rw [encEn_len]; omega), encEn_len, ← ih]
  congr 1
  omega
theorem own_set {w : World} {B g n cap s : Nat} {T : TypeId} {xs : List Value} (h : w.ownsRow B T s (.slice (some ⟨g, 0, none⟩) n cap) n xs) {p : Nat} (v : Value) : (w.setCell ⟨g, p, none⟩ v).ownsRow B T s (.slice (some ⟨g, 0, none⟩) n cap) n (xs.set p v) := by
 refine ⟨by rw [List.length_set]; exact h.1, ?_⟩
 rcases h.2 with ⟨h1, _⟩ | ⟨g', cap', cur, hv, hB, hg, h3, h4, h5, h6⟩
 ·cases h1
 ·injection hv with a1 a2 a3
  injection a1 with a1
  injection a1 with a1
  subst a1 a3
  refine Or.inr ⟨g, cap, cur.setIfInBounds p v, rfl, hB, Joins.block_setCell hg v, h3, h4, by rw [Array.size_setIfInBounds]; exact h5, ?_⟩
  rw [← h6, Array.toList_setIfInBounds, List.take_set]
theorem own_zero {w : World} {B g n cap s : Nat} {T : TypeId} {xs : List Value} (h : w.ownsRow B T s (.slice (some ⟨g, 0, none⟩) n cap) n xs) : ∀ o, w.frozen? ⟨g, o, none⟩ = false := by
 rcases h.2 with ⟨h1, _⟩ | ⟨g', cap', cur, hv, hB, hg, _⟩
 ·cases h1
 ·injection hv with a1 a2 a3
  injection a1 with a1
  injection a1 with a1
  subst a1
  exact fun o => frozen_of_heap hg o
theorem sets14 {w : World} {B g n cap : Nat} {T : TypeId} {A R : List Value} {z0 z1 z2 z3 z4 z5 z6 z7 z8 z9 z10 z11 z12 z13 : Value} {p : Nat} (hp : A.length = p) (h : w.ownsRow B T 14 (.slice (some ⟨g, 0, none⟩) n cap) n (A ++ z0 :: z1 :: z2 :: z3 :: z4 :: z5 :: z6 :: z7 :: z8 :: z9 :: z10 :: z11 :: z12 :: z13 :: R)) (v0 v1 v2 v3 v4 v5 v6 v7 v8 v9 v10 v11 v12 v13 : Value) :
  ∃ w1 w2 w3 w4 w5 w6 w7 w8 w9 w10 w11 w12 w13 w14 : World, w.setCell ⟨g, p, none⟩ v0 = w1 ∧ w1.setCell ⟨g, p + 1, none⟩ v1 = w2 ∧ w2.setCell ⟨g, p + 2, none⟩ v2 = w3 ∧ w3.setCell ⟨g, p + 3, none⟩ v3 = w4 ∧ w4.setCell ⟨g, p + 4, none⟩ v4 = w5 ∧ w5.setCell ⟨g, p + 5, none⟩ v5 = w6 ∧ w6.setCell ⟨g, p + 6, none⟩ v6 = w7 ∧ w7.setCell ⟨g, p + 7, none⟩ v7 = w8 ∧ w8.setCell ⟨g, p + 8, none⟩ v8 = w9 ∧ w9.setCell ⟨g, p + 9, none⟩ v9 = w10 ∧ w10.setCell ⟨g, p + 10, none⟩ v10 = w11 ∧ w11.setCell ⟨g, p + 11, none⟩ v11 = w12 ∧ w12.setCell ⟨g, p + 12, none⟩ v12 = w13 ∧ w13.setCell ⟨g, p + 13, none⟩ v13 = w14 ∧ (w.cell? ⟨g, p, none⟩ = some z0 ∧ w.frozen? ⟨g, p, none⟩ = false) ∧ (w1.cell? ⟨g, p + 1, none⟩ = some z1 ∧ w1.frozen? ⟨g, p + 1, none⟩ = false) ∧ (w2.cell? ⟨g, p + 2, none⟩ = some z2 ∧ w2.frozen? ⟨g, p + 2, none⟩ = false) ∧ (w3.cell? ⟨g, p + 3, none⟩ = some z3 ∧ w3.frozen? ⟨g, p + 3, none⟩ = false) ∧ (w4.cell? ⟨g, p + 4, none⟩ = some z4 ∧ w4.frozen? ⟨g, p + 4, none⟩ = false) ∧ (w5.cell? ⟨g, p + 5, none⟩ = some z5 ∧ w5.frozen? ⟨g, p + 5, none⟩ = false) ∧ (w6.cell? ⟨g, p + 6, none⟩ = some z6 ∧ w6.frozen? ⟨g, p + 6, none⟩ = false) ∧ (w7.cell? ⟨g, p + 7, none⟩ = some z7 ∧ w7.frozen? ⟨g, p + 7, none⟩ = false) ∧ (w8.cell? ⟨g, p + 8, none⟩ = some z8 ∧ w8.frozen? ⟨g, p + 8, none⟩ = false) ∧ (w9.cell? ⟨g, p + 9, none⟩ = some z9 ∧ w9.frozen? ⟨g, p + 9, none⟩ = false) ∧ (w10.cell? ⟨g, p + 10, none⟩ = some z10 ∧ w10.frozen? ⟨g, p + 10, none⟩ = false) ∧ (w11.cell? ⟨g, p + 11, none⟩ = some z11 ∧ w11.frozen? ⟨g, p + 11, none⟩ = false) ∧ (w12.cell? ⟨g, p + 12, none⟩ = some z12 ∧ w12.frozen? ⟨g, p + 12, none⟩ = false) ∧ (w13.cell? ⟨g, p + 13, none⟩ = some z13 ∧ w13.frozen? ⟨g, p + 13, none⟩ = false) ∧ w14.ownsRow B T 14 (.slice (some ⟨g, 0, none⟩) n cap) n (A ++ v0 :: v1 :: v2 :: v3 :: v4 :: v5 :: v6 :: v7 :: v8 :: v9 :: v10 :: v11 :: v12 :: v13 :: R) ∧ ∀ k, k ≠ g → w14.heap[k]? = w.heap[k]? := by
 refine ⟨_, _, _, _, _, _, _, _, _, _, _, _, _, _, rfl, rfl, rfl, rfl, rfl, rfl, rfl, rfl, rfl, rfl, rfl, rfl, rfl, rfl, ?_⟩
 have c0 : w.cell? ⟨g, p, none⟩ = some z0 := by
  have := World.ownsRow.cellAt h (p) (by have := h.1; rw [List.length_append] at this; simp only [List.length_cons] at this; omega)
  rw [this, ← hp, List.getElem?_append_right (by omega)]
  simp
 have f0 := own_zero h (p)
 have h1 : (w.setCell ⟨g, p, none⟩ v0).ownsRow B T 14 (.slice (some ⟨g, 0, none⟩) n cap) n (A ++ v0 :: z1 :: z2 :: z3 :: z4 :: z5 :: z6 :: z7 :: z8 :: z9 :: z10 :: z11 :: z12 :: z13 :: R) := by
  have := own_set h (p := p) v0
  rw [List.set_append_right _ _ (by omega), show p - A.length = 0 by omega] at this
  exact this
 have k1 : ∀ k, k ≠ g → (w.setCell ⟨g, p, none⟩ v0).heap[k]? = w.heap[k]? := fun k hk => (Below.heap_setCell w ⟨g, p, none⟩ v0 k hk)
 generalize w.setCell ⟨g, p, none⟩ v0 = x1 at *
 have c1 : x1.cell? ⟨g, p + 1, none⟩ = some z1 := by
  have := World.ownsRow.cellAt h1 (p + 1) (by have := h1.1; rw [List.length_append] at this; simp only [List.length_cons] at this; omega)
  rw [this, ← hp, List.getElem?_append_right (by omega)]
  simp
 have f1 := own_zero h1 (p + 1)
 have h2 : (x1.setCell ⟨g, p + 1, none⟩ v1).ownsRow B T 14 (.slice (some ⟨g, 0, none⟩) n cap) n (A ++ v0 :: v1 :: z2 :: z3 :: z4 :: z5 :: z6 :: z7 :: z8 :: z9 :: z10 :: z11 :: z12 :: z13 :: R) := by
  have := own_set h1 (p := p + 1) v1
  rw [List.set_append_right _ _ (by omega), show p + 1 - A.length = 1 by omega] at this
  exact this
 have k2 : ∀ k, k ≠ g → (x1.setCell ⟨g, p + 1, none⟩ v1).heap[k]? = w.heap[k]? := fun k hk => (Below.heap_setCell x1 ⟨g, p + 1, none⟩ v1 k hk).trans (k1 k hk)
 generalize x1.setCell ⟨g, p + 1, none⟩ v1 = x2 at *
 have c2 : x2.cell? ⟨g, p + 2, none⟩ = some z2 := by
  have := World.ownsRow.cellAt h2 (p + 2) (by have := h2.1; rw [List.length_append] at this; simp only [List.length_cons] at this; omega)
  rw [this, ← hp, List.getElem?_append_right (by omega)]
  simp
 have f2 := own_zero h2 (p + 2)
 have h3 : (x2.setCell ⟨g, p + 2, none⟩ v2).ownsRow B T 14 (.slice (some ⟨g, 0, none⟩) n cap) n (A ++ v0 :: v1 :: v2 :: z3 :: z4 :: z5 :: z6 :: z7 :: z8 :: z9 :: z10 :: z11 :: z12 :: z13 :: R) := by
  have := own_set h2 (p := p + 2) v2
  rw [List.set_append_right _ _ (by omega), show p + 2 - A.length = 2 by omega] at this
  exact this
 have k3 : ∀ k, k ≠ g → (x2.setCell ⟨g, p + 2, none⟩ v2).heap[k]? = w.heap[k]? := fun k hk => (Below.heap_setCell x2 ⟨g, p + 2, none⟩ v2 k hk).trans (k2 k hk)
 generalize x2.setCell ⟨g, p + 2, none⟩ v2 = x3 at *
 have c3 : x3.cell? ⟨g, p + 3, none⟩ = some z3 := by
  have := World.ownsRow.cellAt h3 (p + 3) (by have := h3.1; rw [List.length_append] at this; simp only [List.length_cons] at this; omega)
  rw [this, ← hp, List.getElem?_append_right (by omega)]
  simp
 have f3 := own_zero h3 (p + 3)
 have h4 : (x3.setCell ⟨g, p + 3, none⟩ v3).ownsRow B T 14 (.slice (some ⟨g, 0, none⟩) n cap) n (A ++ v0 :: v1 :: v2 :: v3 :: z4 :: z5 :: z6 :: z7 :: z8 :: z9 :: z10 :: z11 :: z12 :: z13 :: R) := by
  have := own_set h3 (p := p + 3) v3
  rw [List.set_append_right _ _ (by omega), show p + 3 - A.length = 3 by omega] at this
  exact this
 have k4 : ∀ k, k ≠ g → (x3.setCell ⟨g, p + 3, none⟩ v3).heap[k]? = w.heap[k]? := fun k hk => (Below.heap_setCell x3 ⟨g, p + 3, none⟩ v3 k hk).trans (k3 k hk)
 generalize x3.setCell ⟨g, p + 3, none⟩ v3 = x4 at *
 have c4 : x4.cell? ⟨g, p + 4, none⟩ = some z4 := by
  have := World.ownsRow.cellAt h4 (p + 4) (by have := h4.1; rw [List.length_append] at this; simp only [List.length_cons] at this; omega)
  rw [this, ← hp, List.getElem?_append_right (by omega)]
  simp
 have f4 := own_zero h4 (p + 4)
 have h5 : (x4.setCell ⟨g, p + 4, none⟩ v4).ownsRow B T 14 (.slice (some ⟨g, 0, none⟩) n cap) n (A ++ v0 :: v1 :: v2 :: v3 :: v4 :: z5 :: z6 :: z7 :: z8 :: z9 :: z10 :: z11 :: z12 :: z13 :: R) := by
  have := own_set h4 (p := p + 4) v4
  rw [List.set_append_right _ _ (by omega), show p + 4 - A.length = 4 by omega] at this
  exact this
 have k5 : ∀ k, k ≠ g → (x4.setCell ⟨g, p + 4, none⟩ v4).heap[k]? = w.heap[k]? := fun k hk => (Below.heap_setCell x4 ⟨g, p + 4, none⟩ v4 k hk).trans (k4 k hk)
 generalize x4.setCell ⟨g, p + 4, none⟩ v4 = x5 at *
 have c5 : x5.cell? ⟨g, p + 5, none⟩ = some z5 := by
  have := World.ownsRow.cellAt h5 (p + 5) (by have := h5.1; rw [List.length_append] at this; simp only [List.length_cons] at this; omega)
  rw [this, ← hp, List.getElem?_append_right (by omega)]
  simp
 have f5 := own_zero h5 (p + 5)
 have h6 : (x5.setCell ⟨g, p + 5, none⟩ v5).ownsRow B T 14 (.slice (some ⟨g, 0, none⟩) n cap) n (A ++ v0 :: v1 :: v2 :: v3 :: v4 :: v5 :: z6 :: z7 :: z8 :: z9 :: z10 :: z11 :: z12 :: z13 :: R) := by
  have := own_set h5 (p := p + 5) v5
  rw [List.set_append_right _ _ (by omega), show p + 5 - A.length = 5 by omega] at this
  exact this
 have k6 : ∀ k, k ≠ g → (x5.setCell ⟨g, p + 5, none⟩ v5).heap[k]? = w.heap[k]? := fun k hk => (Below.heap_setCell x5 ⟨g, p + 5, none⟩ v5 k hk).trans (k5 k hk)
 generalize x5.setCell ⟨g, p + 5, none⟩ v5 = x6 at *
 have c6 : x6.cell? ⟨g, p + 6, none⟩ = some z6 := by
  have := World.ownsRow.cellAt h6 (p + 6) (by have := h6.1; rw [List.length_append] at this; simp only [List.length_cons] at this; omega)
  rw [this, ← hp, List.getElem?_append_right (by omega)]
  simp
 have f6 := own_zero h6 (p + 6)
 have h7 : (x6.setCell ⟨g, p + 6, none⟩ v6).ownsRow B T 14 (.slice (some ⟨g, 0, none⟩) n cap) n (A ++ v0 :: v1 :: v2 :: v3 :: v4 :: v5 :: v6 :: z7 :: z8 :: z9 :: z10 :: z11 :: z12 :: z13 :: R) := by
  have := own_set h6 (p := p + 6) v6
  rw [List.set_append_right _ _ (by omega), show p + 6 - A.length = 6 by omega] at this
  exact this
 have k7 : ∀ k, k ≠ g → (x6.setCell ⟨g, p + 6, none⟩ v6).heap[k]? = w.heap[k]? := fun k hk => (Below.heap_setCell x6 ⟨g, p + 6, none⟩ v6 k hk).trans (k6 k hk)
 generalize x6.setCell ⟨g, p + 6, none⟩ v6 = x7 at *
 have c7 : x7.cell? ⟨g, p + 7, none⟩ = some z7 := by
  have := World.ownsRow.cellAt h7 (p + 7) (by have := h7.1; rw [List.length_append] at this; simp only [List.length_cons] at this; omega)
  rw [this, ← hp, List.getElem?_append_right (by omega)]
  simp
 have f7 := own_zero h7 (p + 7)
 have h8 : (x7.setCell ⟨g, p + 7, none⟩ v7).ownsRow B T 14 (.slice (some ⟨g, 0, none⟩) n cap) n (A ++ v0 :: v1 :: v2 :: v3 :: v4 :: v5 :: v6 :: v7 :: z8 :: z9 :: z10 :: z11 :: z12 :: z13 :: R) := by
  have := own_set h7 (p := p + 7) v7
  rw [List.set_append_right _ _ (by omega), show p + 7 - A.length = 7 by omega] at this
  exact this
 have k8 : ∀ k, k ≠ g → (x7.setCell ⟨g, p + 7, none⟩ v7).heap[k]? = w.heap[k]? := fun k hk => (Below.heap_setCell x7 ⟨g, p + 7, none⟩ v7 k hk).trans (k7 k hk)
 generalize x7.setCell ⟨g, p + 7, none⟩ v7 = x8 at *
 have c8 : x8.cell? ⟨g, p + 8, none⟩ = some z8 := by
  have := World.ownsRow.cellAt h8 (p + 8) (by have := h8.1; rw [List.length_append] at this; simp only [List.length_cons] at this; omega)
  rw [this, ← hp, List.getElem?_append_right (by omega)]
  simp
 have f8 := own_zero h8 (p + 8)
 have h9 : (x8.setCell ⟨g, p + 8, none⟩ v8).ownsRow B T 14 (.slice (some ⟨g, 0, none⟩) n cap) n (A ++ v0 :: v1 :: v2 :: v3 :: v4 :: v5 :: v6 :: v7 :: v8 :: z9 :: z10 :: z11 :: z12 :: z13 :: R) := by
  have := own_set h8 (p := p + 8) v8
  rw [List.set_append_right _ _ (by omega), show p + 8 - A.length = 8 by omega] at this
  exact this
 have k9 : ∀ k, k ≠ g → (x8.setCell ⟨g, p + 8, none⟩ v8).heap[k]? = w.heap[k]? := fun k hk => (Below.heap_setCell x8 ⟨g, p + 8, none⟩ v8 k hk).trans (k8 k hk)
 generalize x8.setCell ⟨g, p + 8, none⟩ v8 = x9 at *
 have c9 : x9.cell? ⟨g, p + 9, none⟩ = some z9 := by
  have := World.ownsRow.cellAt h9 (p + 9) (by have := h9.1; rw [List.length_append] at this; simp only [List.length_cons] at this; omega)
  rw [this, ← hp, List.getElem?_append_right (by omega)]
  simp
 have f9 := own_zero h9 (p + 9)
 have h10 : (x9.setCell ⟨g, p + 9, none⟩ v9).ownsRow B T 14 (.slice (some ⟨g, 0, none⟩) n cap) n (A ++ v0 :: v1 :: v2 :: v3 :: v4 :: v5 :: v6 :: v7 :: v8 :: v9 :: z10 :: z11 :: z12 :: z13 :: R) := by
  have := own_set h9 (p := p + 9) v9
  rw [List.set_append_right _ _ (by omega), show p + 9 - A.length = 9 by omega] at this
  exact this
 have k10 : ∀ k, k ≠ g → (x9.setCell ⟨g, p + 9, none⟩ v9).heap[k]? = w.heap[k]? := fun k hk => (Below.heap_setCell x9 ⟨g, p + 9, none⟩ v9 k hk).trans (k9 k hk)
 generalize x9.setCell ⟨g, p + 9, none⟩ v9 = x10 at *
 have c10 : x10.cell? ⟨g, p + 10, none⟩ = some z10 := by
  have := World.ownsRow.cellAt h10 (p + 10) (by have := h10.1; rw [List.length_append] at this; simp only [List.length_cons] at this; omega)
  rw [this, ← hp, List.getElem?_append_right (by omega)]
  simp
 have f10 := own_zero h10 (p + 10)
 have h11 : (x10.setCell ⟨g, p + 10, none⟩ v10).ownsRow B T 14 (.slice (some ⟨g, 0, none⟩) n cap) n (A ++ v0 :: v1 :: v2 :: v3 :: v4 :: v5 :: v6 :: v7 :: v8 :: v9 :: v10 :: z11 :: z12 :: z13 :: R) := by
  have := own_set h10 (p := p + 10) v10
  rw [List.set_append_right _ _ (by omega), show p + 10 - A.length = 10 by omega] at this
  exact this
 have k11 : ∀ k, k ≠ g → (x10.setCell ⟨g, p + 10, none⟩ v10).heap[k]? = w.heap[k]? := fun k hk => (Below.heap_setCell x10 ⟨g, p + 10, none⟩ v10 k hk).trans (k10 k hk)
 generalize x10.setCell ⟨g, p + 10, none⟩ v10 = x11 at *
 have c11 : x11.cell? ⟨g, p + 11, none⟩ = some z11 := by
  have := World.ownsRow.cellAt h11 (p + 11) (by have := h11.1; rw [List.length_append] at this; simp only [List.length_cons] at this; omega)
  rw [this, ← hp, List.getElem?_append_right (by omega)]
  simp
 have f11 := own_zero h11 (p + 11)
 have h12 : (x11.setCell ⟨g, p + 11, none⟩ v11).ownsRow B T 14 (.slice (some ⟨g, 0, none⟩) n cap) n (A ++ v0 :: v1 :: v2 :: v3 :: v4 :: v5 :: v6 :: v7 :: v8 :: v9 :: v10 :: v11 :: z12 :: z13 :: R) := by
  have := own_set h11 (p := p + 11) v11
  rw [List.set_append_right _ _ (by omega), show p + 11 - A.length = 11 by omega] at this
  exact this
 have k12 : ∀ k, k ≠ g → (x11.setCell ⟨g, p + 11, none⟩ v11).heap[k]? = w.heap[k]? := fun k hk => (Below.heap_setCell x11 ⟨g, p + 11, none⟩ v11 k hk).trans (k11 k hk)
 generalize x11.setCell ⟨g, p + 11, none⟩ v11 = x12 at *
 have c12 : x12.cell? ⟨g, p + 12, none⟩ = some z12 := by
  have := World.ownsRow.cellAt h12 (p + 12) (by have := h12.1; rw [List.length_append] at this; simp only [List.length_cons] at this; omega)
  rw [this, ← hp, List.getElem?_append_right (by omega)]
  simp
 have f12 := own_zero h12 (p + 12)
 have h13 : (x12.setCell ⟨g, p + 12, none⟩ v12).ownsRow B T 14 (.slice (some ⟨g, 0, none⟩) n cap) n (A ++ v0 :: v1 :: v2 :: v3 :: v4 :: v5 :: v6 :: v7 :: v8 :: v9 :: v10 :: v11 :: v12 :: z13 :: R) := by
  have := own_set h12 (p := p + 12) v12
  rw [List.set_append_right _ _ (by omega), show p + 12 - A.length = 12 by omega] at this
  exact this
 have k13 : ∀ k, k ≠ g → (x12.setCell ⟨g, p + 12, none⟩ v12).heap[k]? = w.heap[k]? := fun k hk => (Below.heap_setCell x12 ⟨g, p + 12, none⟩ v12 k hk).trans (k12 k hk)
 generalize x12.setCell ⟨g, p + 12, none⟩ v12 = x13 at *
 have c13 : x13.cell? ⟨g, p + 13, none⟩ = some z13 := by
  have := World.ownsRow.cellAt h13 (p + 13) (by have := h13.1; rw [List.length_append] at this; simp only [List.length_cons] at this; omega)
  rw [this, ← hp, List.getElem?_append_right (by omega)]
  simp
 have f13 := own_zero h13 (p + 13)
 have h14 : (x13.setCell ⟨g, p + 13, none⟩ v13).ownsRow B T 14 (.slice (some ⟨g, 0, none⟩) n cap) n (A ++ v0 :: v1 :: v2 :: v3 :: v4 :: v5 :: v6 :: v7 :: v8 :: v9 :: v10 :: v11 :: v12 :: v13 :: R) := by
  have := own_set h13 (p := p + 13) v13
  rw [List.set_append_right _ _ (by omega), show p + 13 - A.length = 13 by omega] at this
  exact this
 have k14 : ∀ k, k ≠ g → (x13.setCell ⟨g, p + 13, none⟩ v13).heap[k]? = w.heap[k]? := fun k hk => (Below.heap_setCell x13 ⟨g, p + 13, none⟩ v13 k hk).trans (k13 k hk)
 generalize x13.setCell ⟨g, p + 13, none⟩ v13 = x14 at *
 exact ⟨⟨c0, f0⟩, ⟨c1, f1⟩, ⟨c2, f2⟩, ⟨c3, f3⟩, ⟨c4, f4⟩, ⟨c5, f5⟩, ⟨c6, f6⟩, ⟨c7, f7⟩, ⟨c8, f8⟩, ⟨c9, f9⟩, ⟨c10, f10⟩, ⟨c11, f11⟩, ⟨c12, f12⟩, ⟨c13, f13⟩, h14, k14⟩
theorem Tryz.infoEn : (Tryz.prog.info? 44).map (fun i => (i.zero, i.size, i.bytes)) = some (some (.agg #[.string ⟨#[]⟩, .string ⟨#[]⟩, .int .i64 0, .string ⟨#[]⟩, .string ⟨#[]⟩, .int .i64 0, .int .i64 0, .string ⟨#[]⟩, .int .i64 0, .int .i64 0, .string ⟨#[]⟩, .int .i64 0, .int .i64 0, .int .i64 0]), 14, 160) := by kernel_rfl
theorem own_kept {w w' : World} {B g n cap s : Nat} {T : TypeId} {xs : List Value} (h : w.ownsRow B T s (.slice (some ⟨g, 0, none⟩) n cap) n xs) (hb : w'.heap[g]? = w.heap[g]?) : w'.ownsRow B T s (.slice (some ⟨g, 0, none⟩) n cap) n xs := by
 refine ⟨h.1, ?_⟩
 rcases h.2 with ⟨h1, _⟩ | ⟨g', cap', cur, hv, hB, hg, h3⟩
 ·cases h1
 ·injection hv with a1 a2 a3
  injection a1 with a1
  injection a1 with a1
  subst a1 a3
  exact Or.inr ⟨g, cap, cur, rfl, hB, hb.trans hg, h3⟩
theorem list14 {R : List Value} {j : Nat} (h : R.length = (j + 1) * 14) : ∃ z0 z1 z2 z3 z4 z5 z6 z7 z8 z9 z10 z11 z12 z13 R', R = z0 :: z1 :: z2 :: z3 :: z4 :: z5 :: z6 :: z7 :: z8 :: z9 :: z10 :: z11 :: z12 :: z13 :: R' ∧ R'.length = j * 14 := by
 match R, h with
 | z0 :: z1 :: z2 :: z3 :: z4 :: z5 :: z6 :: z7 :: z8 :: z9 :: z10 :: z11 :: z12 :: z13 :: R', h =>
  refine ⟨z0, z1, z2, z3, z4, z5, z6, z7, z8, z9, z10, z11, z12, z13, R', rfl, ?_⟩
  simp only [List.length_cons] at h
  omega
 | [], h => simp at h
 | [_], h => simp at h; omega
 | [_, _], h => simp at h; omega
 | [_, _, _], h => simp at h; omega
 | [_, _, _, _], h => simp at h; omega
 | [_, _, _, _, _], h => simp at h; omega
 | [_, _, _, _, _, _], h => simp at h; omega
 | [_, _, _, _, _, _, _], h => simp at h; omega
 | [_, _, _, _, _, _, _, _], h => simp at h; omega
 | [_, _, _, _, _, _, _, _, _], h => simp at h; omega
 | [_, _, _, _, _, _, _, _, _, _], h => simp at h; omega
 | [_, _, _, _, _, _, _, _, _, _, _], h => simp at h; omega
 | [_, _, _, _, _, _, _, _, _, _, _, _], h => simp at h; omega
 | [_, _, _, _, _, _, _, _, _, _, _, _, _], h => simp at h; omega
theorem ents_of {w : World} {B g n cap : Nat} {l : List En} (hg : g < w.heap.size) (h : w.ownsRow B 44 14 (.slice (some ⟨g, 0, none⟩) n cap) n (flatE l)) : Ents w g 0 l := by
 refine ⟨hg, fun k e he => ?_⟩
 have hk := (List.getElem?_eq_some_iff.1 he).1
 have hn : n * 14 = l.length * 14 := by have := h.1; rw [flatE_len] at this; omega
 have key : ∀ c, c < 14 → w.cell? ⟨g, 0 + k * 14 + c, none⟩ = (encEn e)[c]? := fun c hc => by
  rw [Nat.zero_add, World.ownsRow.cellAt h (k * 14 + c) (by omega)]
  exact flatE_get c he hc
 exact ⟨key 0 (by decide), key 1 (by decide), key 2 (by decide), key 3 (by decide), key 4 (by decide), key 5 (by decide), key 6 (by decide), key 7 (by decide), key 8 (by decide), key 9 (by decide), key 10 (by decide), key 11 (by decide), key 12 (by decide), key 13 (by decide)⟩
theorem out_any (w : World) (v : Value) (m : List Ln) (h : RowV w v m) (hlen : m.length ≤ 20000) :
  Calls Tryz.prog 10 #[v] w fun e w' => ∃ g, e = .returned (.slice (some ⟨g, 0, none⟩) m.length m.length) ∧ w.heap.size ≤ g ∧ Ents w' g 0 (m.map outEn) ∧ Below w.heap.size w w' := by
 obtain ⟨i0, hi, hz0, hz1, hz2⟩ := info_parts Tryz.infoEn
 obtain ⟨pv, cv, rfl, hr⟩ : ∃ pv cv, v = .slice pv m.length cv ∧ ∀ W, Below w.heap.size w W → ∀ i l, m[i]? = some l → ∃ g, pv = some ⟨g, 0, none⟩ ∧ LineAt W g (i * 5) l := by
  rcases h with ⟨rfl, rfl⟩ | ⟨g, c, rfl, hr⟩
  ·exact ⟨none, 0, rfl, fun W _ i l hi => by simp at hi⟩
  ·exact ⟨_, c, rfl, fun W hb i l hi => ⟨g, rfl, (hr.below hb) i l hi⟩⟩
 have HR : Hid (∀ W, Below w.heap.size w W → ∀ i l, m[i]? = some l → ∃ g, pv = some ⟨g, 0, none⟩ ∧ LineAt W g (i * 5) l) := hr
 obtain ⟨ln, hln⟩ : ∃ ln, m.length = ln := ⟨_, rfl⟩
 have HLn : Hid (m.length = ln) := hln
 rw [hln] at hlen ⊢
 clear h hr hln
 go_enter Tryz.func10, Tryz.ntmps10
 go_wp2_with (refine wpList_make_full _ rfl _ _ 22 rfl w.heap.size 44 i0 _ 14 Tryz.underlying22 hi hz0 hz1 .i64 .i64 _ _ ln rfl rfl rfl rfl (by rw [hz2]; omega) (by unfold maxLen; omega) (Nat.le_refl _) ?_; intro w1 own1 gr1; have HB1 : Hid (Below w.heap.size w w1) := ⟨gr1.os, gr1.tape, gr1.output, gr1.size, fun k hk => gr1.block k hk (by simp)⟩; obtain ⟨R1, hR1⟩ : ∃ R, R = (madeCells (Value.agg #[.string ⟨#[]⟩, .string ⟨#[]⟩, .int .i64 0, .string ⟨#[]⟩, .string ⟨#[]⟩, .int .i64 0, .int .i64 0, .string ⟨#[]⟩, .int .i64 0, .int .i64 0, .string ⟨#[]⟩, .int .i64 0, .int .i64 0, .int .i64 0]).cells (ln * 14)).toList := ⟨_, rfl⟩; rw [← hR1] at own1; have HO1 : Hid (R1.length = ln * 14 ∧ w1.ownsRow w.heap.size 44 14 (.slice (some ⟨w.heap.size, 0, none⟩) ln ln) ln R1) := ⟨own1.1, own1⟩; clear own1 gr1 hR1)
 obtain ⟨g, hg⟩ : ∃ g, w.heap.size = g := ⟨_, rfl⟩
 have HG : Hid (w.heap.size = g) := hg
 rw [hg] at HO1 HB1 HR ⊢
 go_loopw [11] (fun vi wr => ∃ k : Nat, k ≤ ln ∧ vi = .int .i64 k ∧ (∃ R, R.length = (ln - k) * 14 ∧ wr.ownsRow g 44 14 (.slice (some ⟨g, 0, none⟩) ln ln) ln (flatE ((m.take k).map outEn) ++ R)) ∧ g < wr.heap.size ∧ Below g w wr) (fun vi _ => ln - (RowKit.intOf vi).toNat)
 case atStart => exact ⟨0, Nat.zero_le _, rfl, ⟨R1, HO1.out.1, HO1.out.2⟩, HO1.out.2.lt g rfl |>.2, HB1.out⟩
 case round =>
  obtain ⟨k, hk, rfl, ⟨R, hRl, hown⟩, hgl, hwr⟩ := hrel
  by_cases hlt : k < ln
  ·obtain ⟨l, hl⟩ : ∃ l, m[k]? = some l := ⟨_, List.getElem?_eq_getElem (by rw [HLn.out]; exact hlt)⟩
   obtain ⟨gp, rfl, c0, c1, c2, c3, c4⟩ := HR.out wr hwr k l hl
   obtain ⟨W1, hal, hb1, hbx, hlt1⟩ := line_box wr l 60
   have hE : (m.take (k + 1)).map outEn = (m.take k).map outEn ++ [outEn l] := by rw [List.take_add_one, hl, List.map_append]; rfl
   have HE : Hid (flatE ((m.take (k + 1)).map outEn) = flatE ((m.take k).map outEn) ++ encEn (outEn l)) := by show _ = _; rw [hE, flatE_snoc]
   have hA : (flatE ((m.take k).map outEn)).length = k * 14 := by
    rw [flatE_len, List.length_map, List.length_take, Nat.min_eq_left (by rw [HLn.out]; exact hk)]
   have hown1 := own_kept hown (hb1.block g hgl)
   obtain ⟨j, hj⟩ : ∃ j, ln - k = j + 1 := ⟨ln - k - 1, by omega⟩
   rw [hj] at hRl
   obtain ⟨z0, z1, z2, z3, z4, z5, z6, z7, z8, z9, z10, z11, z12, z13, R', rfl, hRl'⟩ := list14 hRl
   obtain ⟨⟨a, r, b⟩, lc, q⟩ := l
   obtain ⟨d0, d1, d2, d3, d4⟩ := hbx
   obtain ⟨u1, u2, u3, u4, u5, u6, u7, u8, u9, u10, u11, u12, u13, u14, e1, e2, e3, e4, e5, e6, e7, e8, e9, e10, e11, e12, e13, e14, ⟨x0, y0⟩, ⟨x1, y1⟩, ⟨x2, y2⟩, ⟨x3, y3⟩, ⟨x4, y4⟩, ⟨x5, y5⟩, ⟨x6, y6⟩, ⟨x7, y7⟩, ⟨x8, y8⟩, ⟨x9, y9⟩, ⟨x10, y10⟩, ⟨x11, y11⟩, ⟨x12, y12⟩, ⟨x13, y13⟩, hown2, hoth⟩ := sets14 hA hown1 (.string kOut) (.string ⟨#[]⟩) (.int .i64 0) (.string lc) (.string ⟨#[]⟩) (.int .i64 0) (.int .i64 0) (.string a) (.int .i64 r) (.int .i64 b) (.string ⟨#[]⟩) (.int .i64 0) (.int .i64 0) (.int .i64 q)
   have hW1 := hb1.size
   have HB14 : Hid (Below g w u14 ∧ g < u14.heap.size) := by
    have hz : u14.heap.size = W1.heap.size := by
     rw [← e14, World.size_setCell, ← e13, World.size_setCell, ← e12, World.size_setCell, ← e11, World.size_setCell, ← e10, World.size_setCell, ← e9, World.size_setCell, ← e8, World.size_setCell, ← e7, World.size_setCell, ← e6, World.size_setCell, ← e5, World.size_setCell, ← e4, World.size_setCell, ← e3, World.size_setCell, ← e2, World.size_setCell, ← e1, World.size_setCell]
    have hbb : Below g w W1 := hwr.trans (hb1.mono (Nat.le_of_lt hgl))
    refine ⟨?_, by omega⟩
    have hg2 : g ≤ g := Nat.le_refl _
    rw [← e14, ← e13, ← e12, ← e11, ← e10, ← e9, ← e8, ← e7, ← e6, ← e5, ← e4, ← e3, ← e2, ← e1]
    exact ((((((((((((((hbb.setCell hg2 _).setCell hg2 _).setCell hg2 _).setCell hg2 _).setCell hg2 _).setCell hg2 _).setCell hg2 _).setCell hg2 _).setCell hg2 _).setCell hg2 _).setCell hg2 _).setCell hg2 _).setCell hg2 _).setCell hg2 _)
   have HO14 : Hid (u14.ownsRow g 44 14 (.slice (some ⟨g, 0, none⟩) ln ln) ln (flatE ((m.take (k + 1)).map outEn) ++ R')) := by
    show World.ownsRow _ _ _ _ _ _ _
    rw [HE.out, List.append_assoc]
    exact hown2
   have HRl : Hid (R'.length = (ln - (k + 1)) * 14) := by show _ = _; rw [hRl', show ln - (k + 1) = j by omega]
   simp only [Nat.zero_add] at c0 c1 c2 c3 c4 d0 d1 d2 d3 d4 hal
   clear hl hE hA hown hown1 hRl hRl' hj hown2 hoth hb1 hwr hgl
   have hko : kOut = ⟨#[111, 117, 116]⟩ := rfl
   rw [hko] at e1
   go_wp2
   go_roundw
   case rel => exact ⟨k + 1, by omega, by go_num, ⟨R', HRl.out, HO14.out⟩, HB14.out.2, HB14.out.1⟩
   case measure => simp [RowKit.intOf]; omega
  ·have hkn : k = ln := by omega
   have e : m.take k = m := List.take_of_length_le (by rw [HLn.out]; omega)
   rw [e] at hown
   have hR0 : R = [] := List.eq_nil_of_length_eq_zero (by rw [hRl]; omega)
   rw [hR0, List.append_nil] at hown
   have HEn : Hid (Ents wr g 0 (m.map outEn)) := ents_of hgl hown
   have HWr : Hid (Below g w wr) := hwr
   clear hown hwr hRl hR0
   go_wp2
   go_ret
   exact ⟨g, rfl, Nat.le_of_eq HG.out, HEn.out, by rw [HG.out]; exact HWr.out⟩
end Go.Proofs.YtefkchmahcjleaaGreatDoor
namespace Go.Proofs.YtefkchmahcjleaaGreatDoor
open Go.RowKit Go.Lib Go.Sort
abbrev entUo : (ByteArray × Su) → Ent := entO (fun g : (ByteArray × Su) => g.1) (fun g : (ByteArray × Su) => Value.agg #[(Value.int .i64 g.2.1), (Value.int .i64 g.2.2.1), (Value.int .i64 g.2.2.2.1), (Value.int .i64 g.2.2.2.2)])
section
variable {w : World} {ops : Array Oper} {rest : List Oper} {o : Oper} {a : Act} {Q : Exit → Act → World → Prop}
theorem wpUo_next (hg : o.guard = none) (it : Operand) (hop : o.op = Op.next it false) (b r : Nat) (L : List Ent) (t : List (ByteArray × Su)) (hit : a.eval it = .pointer (some ⟨r, 0, none⟩)) (h : RangeL Tryz.prog 9 w b r L (t.map entUo))
  (hDone : t = [] → wpList Tryz.prog ops Q rest (a.put o.dst (.tuple #[.bool false])) w)
  (hMore : ∀ (xk : ByteArray) (xi : Int) (xo : Int) (xm : Int) (xl : Int) t' w', t.Perm ((xk, xi, xo, xm, xl) :: t') → RangeL Tryz.prog 9 w' b r L (t'.map entUo) → w.grownBy w' (some r) → w'.heap.size = w.heap.size → (Instr.entry (.pointer (some ⟨r, 0, none⟩))).run Tryz.prog w' = .ok (.tuple #[.string xk, .agg #[.int .i64 xi, .int .i64 xo, .int .i64 xm, .int .i64 xl]]) w' →
   wpList Tryz.prog ops Q rest (a.put o.dst (.tuple #[.bool true, .string xk, .agg #[.int .i64 xi, .int .i64 xo, .int .i64 xm, .int .i64 xl]])) w') : wpList Tryz.prog ops Q (o :: rest) a w :=
 wpO_next (fun g : (ByteArray × Su) => g.1) (fun g : (ByteArray × Su) => Value.agg #[(Value.int .i64 g.2.1), (Value.int .i64 g.2.2.1), (Value.int .i64 g.2.2.2.1), (Value.int .i64 g.2.2.2.2)]) hg it hop b r L t hit h hDone fun ⟨xk, xi, xo, xm, xl⟩ t' w' h1 h2 h3 h4 h5 => hMore xk xi xo xm xl t' w' h1 h2 h3 h4 h5
end
theorem askUo_hit {W : World} {b : Nat} {m : List (ByteArray × Su)} (h : MapL Tryz.prog 9 W b (m.map entUo)) {c : ByteArray} {kl : Lit} (hk : keyOf Tryz.prog 9 (.string c) = some kl) {yk : ByteArray} {yi : Int} {yo : Int} {ym : Int} {yl : Int} (hy : findN (fun g : (ByteArray × Su) => g.1) m c = some (yk, yi, yo, ym, yl)) : (Instr.lookup 72 (.map (some b)) (.string c) true).run Tryz.prog W = .ok (.tuple #[.agg #[.int .i64 yi, .int .i64 yo, .int .i64 ym, .int .i64 yl], .bool true]) W :=
 askO_hit (v := (fun g : (ByteArray × Su) => Value.agg #[(Value.int .i64 g.2.1), (Value.int .i64 g.2.2.1), (Value.int .i64 g.2.2.2.1), (Value.int .i64 g.2.2.2.2)])) Tryz.keyedS Tryz.underlying72 h hk hy
theorem askUo_miss {W : World} {b : Nat} {m : List (ByteArray × Su)} (h : MapL Tryz.prog 9 W b (m.map entUo)) {c : ByteArray} {kl : Lit} (hk : keyOf Tryz.prog 9 (.string c) = some kl) (hy : findN (fun g : (ByteArray × Su) => g.1) m c = none) : (Instr.lookup 72 (.map (some b)) (.string c) true).run Tryz.prog W = .ok (.tuple #[.agg #[.int .i64 0, .int .i64 0, .int .i64 0, .int .i64 0], .bool false]) W :=
 askO_miss (v := (fun g : (ByteArray × Su) => Value.agg #[(Value.int .i64 g.2.1), (Value.int .i64 g.2.2.1), (Value.int .i64 g.2.2.2.1), (Value.int .i64 g.2.2.2.2)])) Tryz.keyedS Tryz.underlying72 h hk (Tryz.zeroValue80 W) hy
theorem equalU_any (w : World) (b1 b2 : Nat) (m1 m2 : List (ByteArray × Su)) (h1 : MapL Tryz.prog 9 w b1 (m1.map entUo)) (h2 : MapL Tryz.prog 9 w b2 (m2.map entUo)) (s1 : m1.length ≤ 1000) (s2 : m2.length ≤ 1000) :
  Calls Tryz.prog 39 #[.map (some b1), .map (some b2)] w fun e w' => ∃ r, e = .returned (.bool r) ∧ (r = true ↔ m1.Perm m2) ∧ Below w.heap.size w w' := by
 have HN1 : Hid ((m1.map (fun g : (ByteArray × Su) => g.1)).Nodup) := names_nodup h1
 have HN2 : Hid ((m2.map (fun g : (ByteArray × Su) => g.1)).Nodup) := names_nodup h2
 have HK : Hid (∀ (xk : ByteArray) (xi : Int) (xo : Int) (xm : Int) (xl : Int), (xk, xi, xo, xm, xl) ∈ m1 → ∃ kl, keyOf Tryz.prog 9 (.string xk) = some kl) := fun xk xi xo xm xl hx => h1.keys _ (List.mem_map.2 ⟨_, hx, rfl⟩)
 have H2 : Hid (∀ W, Below w.heap.size w W → MapL Tryz.prog 9 W b2 (m2.map entUo)) := fun W hb => h2.below hb h2.lt
 obtain ⟨l1, hl1⟩ : ∃ l1, (m1.map entUo).length = l1 := ⟨_, rfl⟩
 obtain ⟨l2, hl2⟩ : ∃ l2, (m2.map entUo).length = l2 := ⟨_, rfl⟩
 have q1 : m1.length = l1 := by rw [← hl1]; simp
 have q2 : m2.length = l2 := by rw [← hl2]; simp
 have t1 : l1 ≤ 1000 := by omega
 have t2 : l2 ≤ 1000 := by omega
 clear s1 s2
 go_enter Tryz.func39, Tryz.ntmps39
 by_cases hll : l1 = l2
 ·have HLe : Hid (m1.length = m2.length) := by show _ = _; omega
  subst hll
  clear q1 q2
  go_wp2_with (first
   | (at_len; refine wpL_len rfl _ 72 rfl 9 80 Tryz.underlying72 b1 _ l1 hl1 rfl h1 ?_)
   | (at_len; refine wpL_len rfl _ 72 rfl 9 80 Tryz.underlying72 b2 _ l1 hl2 rfl h2 ?_)
   | (at_range; refine wpL_range rfl _ 72 rfl 9 80 Tryz.underlying72 b1 (m1.map entUo) rfl h1 ?_; intro w0 hrg0 hg0 hs0))
  go_frame
  have hb0 : Below w.heap.size w w0 := ⟨hg0.os, hg0.tape, hg0.output, hg0.size, fun k hk => hg0.block k hk (by simp)⟩
  clear hg0 hs0 h1 h2 hl1 hl2 t1 t2
  go_loopw [] (fun wr => ∃ d t : List (ByteArray × Su), EqS (fun g : (ByteArray × Su) => g.1) m1 m2 d t ∧ RangeL Tryz.prog 9 wr b1 w.heap.size (m1.map entUo) (t.map entUo) ∧ Below w.heap.size w wr) (fun wr => wr.rangeLeft b1 w.heap.size)
  case atStart => exact ⟨[], m1, EqS.start _ _, hrg0, hb0⟩
  case round =>
   obtain ⟨d, t, hE, hrg, hb⟩ := hrel
   have HE : Hid (EqS _ _ _ _ _) := hE
   go_wp2_with (at_next; refine wpUo_next rfl _ rfl b1 w.heap.size _ t rfl hrg ?_ ?_)
   ·intro ht
    subst ht
    go_wp2
    go_ret
    exact ⟨true, rfl, ⟨fun _ => HE.out.done HN1.out HLe.out, fun _ => rfl⟩, hb⟩
   ·intro xk xi xo xm xl t' w1 hp1 hrg1 hg1 hs1 hen
    have hb1 := grown_below hb (Nat.le_refl _) hg1
    have HP : Hid (t.Perm ((xk, xi, xo, xm, xl) :: t')) := hp1
    have HM : Hid (wr.rangeLeft b1 w.heap.size = w1.rangeLeft b1 w.heap.size + 1) := by
     show _ = _
     rw [hrg.left_eq, hrg1.left_eq]
     have := hp1.length_eq
     simpa using this
    obtain ⟨kl, hkl⟩ := HK.out xk xi xo xm xl (hE.perm.mem_iff.1 (List.mem_append.2 (Or.inr (hp1.mem_iff.2 (List.mem_cons_self ..)))))
    have hbN := hb1.alloc hb1.size (.cells #[.int .i64 xi, .int .i64 xo, .int .i64 xm, .int .i64 xl] 80)
    have hbM : Below w1.heap.size w1 (w1.alloc (.cells #[.int .i64 xi, .int .i64 xo, .int .i64 xm, .int .i64 xl] 80)) := (Below.refl _ w1).alloc (Nat.le_refl _) _
    have nN := heap_alloc_new w1 (.cells #[.int .i64 xi, .int .i64 xo, .int .i64 xm, .int .i64 xl] 80)
    obtain ⟨W2, hW2⟩ : ∃ W2, w1.alloc (.cells #[.int .i64 xi, .int .i64 xo, .int .i64 xm, .int .i64 xl] 80) = W2 := ⟨_, rfl⟩
    rw [hW2] at hbN nN hbM
    have hrg2 : RangeL Tryz.prog 9 W2 b1 w.heap.size (m1.map entUo) (t'.map entUo) := hrg1.below hbM hrg1.map.lt hrg1.lt
    have HL2 : Hid (W2.rangeLeft b1 w.heap.size = w1.rangeLeft b1 w.heap.size) := hrg2.left_eq.trans hrg1.left_eq.symm
    cases hfi : findN (fun g : (ByteArray × Su) => g.1) m2 xk with
    | none =>
     obtain ⟨V1, V2, V3, V4, V5, e1, e2, e3, e4, e5, ⟨k1, k2, k3, k4, k5⟩, ⟨k6, k7⟩, ⟨k8, k9⟩, ⟨k10, k11⟩, n5, kb1, kb5⟩ := boxed4 W2 (.int .i64 0) (.int .i64 0) (.int .i64 0) (.int .i64 0) (.int .i64 0) (.int .i64 0) (.int .i64 0) (.int .i64 0) 80
     have hl := askUo_miss (H2.out W2 hbN) hkl hfi
     have HB5 : Hid (Below w.heap.size w V5) := hbN.trans (kb5.mono hbN.size)
     clear hE hp1 hrg hrg1 hg1 hb hb1 hbN hbM nN hrg2 hs1 hkl n5 kb5
     go_wp2_with (at_lookup; refine wpL_ask rfl _ _ 72 rfl b2 _ _ rfl rfl hl ?_)
     go_ret
     exact ⟨false, rfl, ⟨fun e9 => (by cases e9), fun e9 => absurd e9 (HE.out.miss HP.out hfi)⟩, HB5.out⟩
    | some y =>
     obtain ⟨yk, yi, yo, ym, yl⟩ := y
     have kb5 : Below W2.heap.size W2 (W2.alloc (.cells #[.int .i64 yi, .int .i64 yo, .int .i64 ym, .int .i64 yl] 80)) := (Below.refl _ W2).alloc (Nat.le_refl _) _
     have n5 := heap_alloc_new W2 (.cells #[.int .i64 yi, .int .i64 yo, .int .i64 ym, .int .i64 yl] 80)
     obtain ⟨V5, hV5⟩ : ∃ V5, W2.alloc (.cells #[.int .i64 yi, .int .i64 yo, .int .i64 ym, .int .i64 yl] 80) = V5 := ⟨_, rfl⟩
     rw [hV5] at kb5 n5
     have hl := askUo_hit (H2.out W2 hbN) hkl hfi
     have n9 := (kb5.block _ (Array.getElem?_eq_some_iff.1 nN).1).trans nN
     have c0 : V5.cell? ⟨w1.heap.size, 0, none⟩ = some (.int .i64 xi) := by rw [cell_of_heap n9]; rfl
     have c1 : V5.cell? ⟨w1.heap.size, 1, none⟩ = some (.int .i64 xo) := by rw [cell_of_heap n9]; rfl
     have c2 : V5.cell? ⟨w1.heap.size, 2, none⟩ = some (.int .i64 xm) := by rw [cell_of_heap n9]; rfl
     have c3 : V5.cell? ⟨w1.heap.size, 3, none⟩ = some (.int .i64 xl) := by rw [cell_of_heap n9]; rfl
     have d0 : V5.cell? ⟨W2.heap.size, 0, none⟩ = some (.int .i64 yi) := by rw [cell_of_heap n5]; rfl
     have d1 : V5.cell? ⟨W2.heap.size, 1, none⟩ = some (.int .i64 yo) := by rw [cell_of_heap n5]; rfl
     have d2 : V5.cell? ⟨W2.heap.size, 2, none⟩ = some (.int .i64 ym) := by rw [cell_of_heap n5]; rfl
     have d3 : V5.cell? ⟨W2.heap.size, 3, none⟩ = some (.int .i64 yl) := by rw [cell_of_heap n5]; rfl
     have HB5 : Hid (Below w.heap.size w V5) := hbN.trans (kb5.mono hbN.size)
     have HR5 : Hid (RangeL Tryz.prog 9 V5 b1 w.heap.size (m1.map entUo) (t'.map entUo)) := hrg2.below kb5 hrg2.map.lt hrg2.lt
     have HLL : Hid (V5.rangeLeft b1 w.heap.size = W2.rangeLeft b1 w.heap.size) := HR5.out.left_eq.trans hrg2.left_eq.symm
     have hq := fun W => eqU_run (xi, xo, xm, xl) (yi, yo, ym, yl) W
     have hgd := Tryz.guardU
     clear hE hp1 hrg hrg1 hg1 hb hb1 hbN hbM nN hrg2 hs1 hkl n5 n9 kb5
     simp only at hq
     by_cases hxy : (xi, xo, xm, xl) = (yi, yo, ym, yl)
     ·have hdec : decide ((xi, xo, xm, xl) = (yi, yo, ym, yl)) = true := decide_eq_true hxy
      rw [hdec] at hq
      have HS : Hid (EqS _ m1 m2 (d ++ [(xk, xi, xo, xm, xl)]) t') := HE.out.step HP.out (by rw [hfi]; exact congrArg some (by have hk : yk = xk := (findN_mem hfi).2; rw [hk, hxy] : ((xk, xi, xo, xm, xl) : ByteArray × Su) = (yk, yi, yo, ym, yl)).symm)
      clear hdec
      go_wp2_with (at_lookup; refine wpL_ask rfl _ _ 72 rfl b2 _ _ rfl rfl hl ?_)
      go_roundw
      case rel => exact ⟨_, t', HS.out, HR5.out, HB5.out⟩
      case measure => show World.rangeLeft _ _ _ < _; rw [HM.out, ← HL2.out, HLL.out]; exact Nat.lt_succ_self _
     ·have hdec : decide ((xi, xo, xm, xl) = (yi, yo, ym, yl)) = false := decide_eq_false hxy
      rw [hdec] at hq
      clear hdec
      go_wp2_with (at_lookup; refine wpL_ask rfl _ _ 72 rfl b2 _ _ rfl rfl hl ?_)
      go_ret
      exact ⟨false, rfl, ⟨fun e9 => (by cases e9), fun e9 => absurd e9 (HE.out.other HP.out HN2.out hfi (fun e9 => hxy (congrArg Prod.snd e9)))⟩, HB5.out⟩
 ·have HLe : Hid (¬ m1.Perm m2) := fun e9 => hll (by have := e9.length_eq; omega)
  have hll' : (l1 : Int) ≠ (l2 : Int) := by omega
  clear q1 q2
  go_wp2_with (first
   | (at_len; refine wpL_len rfl _ 72 rfl 9 80 Tryz.underlying72 b1 _ l1 hl1 rfl h1 ?_)
   | (at_len; refine wpL_len rfl _ 72 rfl 9 80 Tryz.underlying72 b2 _ l2 hl2 rfl h2 ?_))
  go_ret
  exact ⟨false, rfl, ⟨fun e9 => (by cases e9), fun e9 => absurd e9 HLe.out⟩, Below.refl _ _⟩
end Go.Proofs.YtefkchmahcjleaaGreatDoor
namespace Go.Proofs.YtefkchmahcjleaaGreatDoor
open Go.RowKit Go.Lib Go.Sort
theorem entG_map (b : Bk) : b.1.map entG = (gdsB b).map entGo := by unfold gdsB; rw [List.map_map]; rfl
theorem entU_map (b : Bk) : b.1.map entU = (susB b).map entUo := by unfold susB; rw [List.map_map]; rfl
theorem entL_map (b : Bk) : b.2.1.map entL = (losB b).map entQo := by unfold losB; rw [List.map_map]; rfl
theorem entH_map (b : Bk) : b.2.1.map entH = (hesB b).map entHo := by unfold hesB; rw [List.map_map]; rfl
theorem is_dec (p : Prop) : ∃ r : Bool, r = true ↔ p := by
 rcases Classical.em p with h | h
 ·exact ⟨true, by simp [h]⟩
 ·exact ⟨false, by simp [h]⟩
theorem same_as {r r' : Bool} {p : Prop} (h : r = true ↔ p) (h' : r' = true ↔ p) : r = r' := by
 cases r <;> cases r' <;> simp_all
structure SameW (w : World) (x y : Bl) (b b' : Bk) (px py : Nat) (r1 r2 r3 r4 r5 : Bool) : Prop where
 cx : ∀ W, Below w.heap.size w W → (W.cell? ⟨x.p, 0, none⟩ = some (.map (some x.g)) ∧ W.cell? ⟨x.p, 1, none⟩ = some (.map (some x.u)) ∧ W.cell? ⟨x.p, 2, none⟩ = some (.map (some x.l)) ∧ W.cell? ⟨x.p, 3, none⟩ = some (.map (some x.h)) ∧ W.cell? ⟨x.p, 4, none⟩ = some (.pointer (some ⟨px, 0, none⟩)))
 cy : ∀ W, Below w.heap.size w W → (W.cell? ⟨y.p, 0, none⟩ = some (.map (some y.g)) ∧ W.cell? ⟨y.p, 1, none⟩ = some (.map (some y.u)) ∧ W.cell? ⟨y.p, 2, none⟩ = some (.map (some y.l)) ∧ W.cell? ⟨y.p, 3, none⟩ = some (.map (some y.h)) ∧ W.cell? ⟨y.p, 4, none⟩ = some (.pointer (some ⟨py, 0, none⟩)))
 G : ∀ W, Below w.heap.size w W → Calls Tryz.prog 38 #[.map (some x.g), .map (some y.g)] W fun e w' => e = .returned (.bool r1) ∧ Below W.heap.size W w'
 U : ∀ W, Below w.heap.size w W → Calls Tryz.prog 39 #[.map (some x.u), .map (some y.u)] W fun e w' => e = .returned (.bool r2) ∧ Below W.heap.size W w'
 Q : ∀ W, Below w.heap.size w W → Calls Tryz.prog 40 #[.map (some x.l), .map (some y.l)] W fun e w' => e = .returned (.bool r3) ∧ Below W.heap.size W w'
 H : ∀ W, Below w.heap.size w W → Calls Tryz.prog 41 #[.map (some x.h), .map (some y.h)] W fun e w' => e = .returned (.bool r4) ∧ Below W.heap.size W w'
 lx : ∀ W, Below w.heap.size w W → Calls Tryz.prog 43 #[.pointer (some ⟨px, 0, none⟩)] W fun e w' => ∃ g c, e = .returned (.slice (some ⟨g, 0, none⟩) b.2.2.length c) ∧ RowN w' g b.2.2 ∧ Below W.heap.size W w'
 ly : ∀ W, Below w.heap.size w W → Calls Tryz.prog 43 #[.pointer (some ⟨py, 0, none⟩)] W fun e w' => ∃ g c, e = .returned (.slice (some ⟨g, 0, none⟩) b'.2.2.length c) ∧ RowN w' g b'.2.2 ∧ Below W.heap.size W w'
 N : ∀ W g g' c c', RowN W g b.2.2 → RowN W g' b'.2.2 → Calls Tryz.prog 42 #[.slice (some ⟨g, 0, none⟩) b.2.2.length c, .slice (some ⟨g', 0, none⟩) b'.2.2.length c'] W fun e w' => e = .returned (.bool r5) ∧ Below W.heap.size W w'
 wx : Calls Tryz.prog 23 #[.pointer (some ⟨x.p, 0, none⟩)] w fun e w' => e = .returned (.pointer (some ⟨x.p, 0, none⟩)) ∧ w' = w
 wy : Calls Tryz.prog 23 #[.pointer (some ⟨y.p, 0, none⟩)] w fun e w' => e = .returned (.pointer (some ⟨y.p, 0, none⟩)) ∧ w' = w
theorem SameW.of {w : World} {B1 B2 : Nat} {x y : Bl} {b b' : Bk} (h1 : IsBk w B1 x b) (h2 : IsBk w B2 y b') : ∃ px py r1 r2 r3 r4 r5, SameW w x y b b' px py r1 r2 r3 r4 r5 ∧ ((((r1 = true ∧ r2 = true) ∧ r3 = true) ∧ r4 = true) ∧ r5 = true ↔ b = b') := by
 have hwx := whole_any w B1 x b h1
 have hwy := whole_any w B2 y b' h2
 obtain ⟨px, qx, h1⟩ := h1
 obtain ⟨py, qy, h2⟩ := h2
 obtain ⟨r1, e1⟩ := is_dec ((gdsB b).Perm (gdsB b'))
 obtain ⟨r2, e2⟩ := is_dec ((susB b).Perm (susB b'))
 obtain ⟨r3, e3⟩ := is_dec ((losB b).Perm (losB b'))
 obtain ⟨r4, e4⟩ := is_dec ((hesB b).Perm (hesB b'))
 obtain ⟨r5, e5⟩ := is_dec (b.2.2 = b'.2.2)
 have k1 := h1.ok.wf.gl
 have k2 := h2.ok.wf.gl
 have k3 := h1.ok.wf.ll
 have k4 := h2.ok.wf.ll
 have k5 := h1.ok.wf.st.len
 have k6 := h2.ok.wf.st.len
 refine ⟨px, py, r1, r2, r3, r4, r5, { cx := ?_, cy := ?_, G := ?_, U := ?_, Q := ?_, H := ?_, lx := ?_, ly := ?_, N := ?_, wx := hwx, wy := hwy }, ?_⟩
 ·intro W hb
  obtain ⟨p0, p1, p2, p3, p4, _⟩ := (h1.all hb).cells
  exact ⟨p0, p1, p2, p3, p4⟩
 ·intro W hb
  obtain ⟨p0, p1, p2, p3, p4, _⟩ := (h2.all hb).cells
  exact ⟨p0, p1, p2, p3, p4⟩
 ·intro W hb
  refine (equalG_any W x.g y.g (gdsB b) (gdsB b') (by rw [← entG_map]; exact (h1.all hb).G) (by rw [← entG_map]; exact (h2.all hb).G) (by unfold gdsB; rw [List.length_map]; omega) (by unfold gdsB; rw [List.length_map]; omega)).mono ?_
  rintro e w' ⟨r, rfl, hr, hb'⟩
  exact ⟨by rw [same_as hr e1], hb'⟩
 ·intro W hb
  refine (equalU_any W x.u y.u (susB b) (susB b') (by rw [← entU_map]; exact (h1.all hb).U) (by rw [← entU_map]; exact (h2.all hb).U) (by unfold susB; rw [List.length_map]; omega) (by unfold susB; rw [List.length_map]; omega)).mono ?_
  rintro e w' ⟨r, rfl, hr, hb'⟩
  exact ⟨by rw [same_as hr e2], hb'⟩
 ·intro W hb
  refine (equalQ_any W x.l y.l (losB b) (losB b') (by rw [← entL_map]; exact (h1.all hb).L) (by rw [← entL_map]; exact (h2.all hb).L) (by unfold losB; rw [List.length_map]; omega) (by unfold losB; rw [List.length_map]; omega)).mono ?_
  rintro e w' ⟨r, rfl, hr, hb'⟩
  exact ⟨by rw [same_as hr e3], hb'⟩
 ·intro W hb
  refine (equalH_any W x.h y.h (hesB b) (hesB b') (by rw [← entH_map]; exact (h1.all hb).H) (by rw [← entH_map]; exact (h2.all hb).H) (by unfold hesB; rw [List.length_map]; omega) (by unfold hesB; rw [List.length_map]; omega)).mono ?_
  rintro e w' ⟨r, rfl, hr, hb'⟩
  exact ⟨by rw [same_as hr e4], hb'⟩
 ·intro W hb
  refine (lines_any W px qx b.2.2 (h1.all hb).S).mono ?_
  rintro e w' ⟨g, c, rfl, _, hr, hb'⟩
  exact ⟨g, c, rfl, hr, hb'⟩
 ·intro W hb
  refine (lines_any W py qy b'.2.2 (h2.all hb).S).mono ?_
  rintro e w' ⟨g, c, rfl, _, hr, hb'⟩
  exact ⟨g, c, rfl, hr, hb'⟩
 ·intro W g g' c c' hg hg'
  refine (equalN_any W g g' c c' b.2.2 b'.2.2 hg hg' (by omega) (by omega)).mono ?_
  rintro e w' ⟨r, rfl, hr, hb'⟩
  exact ⟨by rw [same_as hr e5], hb'⟩
 ·rw [e1, e2, e3, e4, e5]
  exact bk_same h1.ok h2.ok
theorem same_yes (w : World) (x y : Bl) (b b' : Bk) (px py : Nat) (r5 : Bool) (h : SameW w x y b b' px py true true true true r5) :
  Calls Tryz.prog 12 #[.pointer (some ⟨x.p, 0, none⟩), .pointer (some ⟨y.p, 0, none⟩)] w fun e w' => e = .returned (.bool r5) ∧ Below w.heap.size w w' := by
 have HW : Hid (SameW _ _ _ _ _ _ _ _ _ _ _ _) := h
 have HX : Hid (Calls Tryz.prog 23 _ _ _) := h.wx
 have HY : Hid (Calls Tryz.prog 23 _ _ _) := h.wy
 have HB0 : Hid (Below w.heap.size w w.drew) := (Below.refl _ w).drew
 obtain ⟨p0, p1, p2, p3, p4⟩ := h.cx w (Below.refl _ _)
 obtain ⟨q0, q1, q2, q3, q4⟩ := h.cy w (Below.refl _ _)
 clear h
 generalize b.2.2.length = lb at *
 generalize b'.2.2.length = lb' at *
 go_enter Tryz.func12, Tryz.ntmps12
 go_wp2_with (first
  | (go_at_call 23; refine HX.out.mono ?_; clear HX; rintro e w1 ⟨rfl, hw⟩; have hw' := hw.symm; subst hw')
  | (go_at_call 23; refine HY.out.mono ?_; rintro e w1 ⟨rfl, hw⟩; have hw' := hw.symm; subst hw'))
 go_region_held3 (fun w' => (w'.cell? ⟨x.p, 0, none⟩ = some (.map (some x.g)) ∧ w'.cell? ⟨x.p, 1, none⟩ = some (.map (some x.u)) ∧ w'.cell? ⟨x.p, 2, none⟩ = some (.map (some x.l)) ∧ w'.cell? ⟨x.p, 3, none⟩ = some (.map (some x.h)) ∧ w'.cell? ⟨x.p, 4, none⟩ = some (.pointer (some ⟨px, 0, none⟩))) ∧ (w'.cell? ⟨y.p, 0, none⟩ = some (.map (some y.g)) ∧ w'.cell? ⟨y.p, 1, none⟩ = some (.map (some y.u)) ∧ w'.cell? ⟨y.p, 2, none⟩ = some (.map (some y.l)) ∧ w'.cell? ⟨y.p, 3, none⟩ = some (.map (some y.h)) ∧ w'.cell? ⟨y.p, 4, none⟩ = some (.pointer (some ⟨py, 0, none⟩)))) (go_keep) (first
  | (go_at_call 38; refine (HW.out.G _ HB0.out).mono ?_; rintro e w2 ⟨rfl, hb⟩; have K1 : Hid (Below w.heap.size w w2) := HB0.out.trans (hb.mono HB0.out.size); obtain ⟨a0, a1, a2, a3, a4⟩ := HW.out.cx _ K1.out; obtain ⟨b0, b1, b2, b3, b4⟩ := HW.out.cy _ K1.out; clear hb)
  | (go_at_call 39; refine (HW.out.U _ K1.out).mono ?_; rintro e w3 ⟨rfl, hb⟩; have K2 : Hid (Below w.heap.size w w3) := K1.out.trans (hb.mono K1.out.size); obtain ⟨c0, c1, c2, c3, c4⟩ := HW.out.cx _ K2.out; obtain ⟨d0, d1, d2, d3, d4⟩ := HW.out.cy _ K2.out; clear hb)
  | (go_at_call 40; refine (HW.out.Q _ K2.out).mono ?_; rintro e w4 ⟨rfl, hb⟩; have K3 : Hid (Below w.heap.size w w4) := K2.out.trans (hb.mono K2.out.size); obtain ⟨e0, e1, e2, e3, e4⟩ := HW.out.cx _ K3.out; obtain ⟨f0, f1, f2, f3, f4⟩ := HW.out.cy _ K3.out; clear hb)
  | (go_at_call 41; refine (HW.out.H _ K3.out).mono ?_; rintro e w5 ⟨rfl, hb⟩; have K4 : Hid (Below w.heap.size w w5) := K3.out.trans (hb.mono K3.out.size); obtain ⟨g0, g1, g2, g3, g4⟩ := HW.out.cx _ K4.out; obtain ⟨h0, h1, h2, h3, h4⟩ := HW.out.cy _ K4.out; have HL : Hid (Calls Tryz.prog 43 _ w5 _) := HW.out.lx _ K4.out; clear hb)
  | (go_at_call 43; refine HL.out.mono ?_; clear HL; rintro e w6 ⟨gx, kx, rfl, hr, hb⟩; have K5 : Hid (Below w.heap.size w w6) := K4.out.trans (hb.mono K4.out.size); have R5 : Hid (RowN w6 gx b.2.2) := hr; obtain ⟨i0, i1, i2, i3, i4⟩ := HW.out.cx _ K5.out; obtain ⟨j0, j1, j2, j3, j4⟩ := HW.out.cy _ K5.out; clear hb hr)
  | (go_at_call 43; refine (HW.out.ly _ K5.out).mono ?_; rintro e w7 ⟨gy, ky, rfl, hr, hb⟩; have K6 : Hid (Below w.heap.size w w7) := K5.out.trans (hb.mono K5.out.size); have R6 : Hid (RowN w7 gx b.2.2) := R5.out.below hb; have R7 : Hid (RowN w7 gy b'.2.2) := hr; obtain ⟨l0, l1, l2, l3, l4⟩ := HW.out.cx _ K6.out; obtain ⟨m0, m1, m2, m3, m4⟩ := HW.out.cy _ K6.out; clear hb hr)
  | (go_at_call 42; refine (HW.out.N _ _ _ _ _ R6.out R7.out).mono ?_; rintro e w8 ⟨rfl, hb⟩; have K7 : Hid (Below w.heap.size w w8) := K6.out.trans (hb.mono K6.out.size); obtain ⟨n0, n1, n2, n3, n4⟩ := HW.out.cx _ K7.out; obtain ⟨o0, o1, o2, o3, o4⟩ := HW.out.cy _ K7.out; clear hb))
 go_wp2
 go_ret
 exact ⟨rfl, K7.out⟩
theorem same_no (w : World) (x y : Bl) (b b' : Bk) (px py : Nat) (r1 r2 r3 r4 r5 : Bool) (h : SameW w x y b b' px py r1 r2 r3 r4 r5) (hr : r1 = false ∨ r1 = true ∧ (r2 = false ∨ r2 = true ∧ (r3 = false ∨ r3 = true ∧ r4 = false))) :
  Calls Tryz.prog 12 #[.pointer (some ⟨x.p, 0, none⟩), .pointer (some ⟨y.p, 0, none⟩)] w fun e w' => e = .returned (.bool false) ∧ Below w.heap.size w w' := by
 have HX : Hid (Calls Tryz.prog 23 _ _ _) := h.wx
 have HY : Hid (Calls Tryz.prog 23 _ _ _) := h.wy
 obtain ⟨p0, p1, p2, p3, p4⟩ := h.cx w (Below.refl _ _)
 obtain ⟨q0, q1, q2, q3, q4⟩ := h.cy w (Below.refl _ _)
 have i0 := cell_regrown p0
 have i1 := cell_regrown p1
 have i2 := cell_regrown p2
 have i3 := cell_regrown p3
 have j0 := cell_regrown q0
 have j1 := cell_regrown q1
 have j2 := cell_regrown q2
 have j3 := cell_regrown q3
 have hbR : ∀ d os, Below w.heap.size w (grow (redrawn w d) os) := fun d os => below_regrown w d os
 have cG := fun d os => Calls.regrown_of (w := w) (d := d) (os := os) (h.G _ (hbR d os))
 have cU := fun d os => Calls.regrown_of (w := w) (d := d) (os := os) (h.U _ (hbR d os))
 have cQ := fun d os => Calls.regrown_of (w := w) (d := d) (os := os) (h.Q _ (hbR d os))
 have cH := fun d os => Calls.regrown_of (w := w) (d := d) (os := os) (h.H _ (hbR d os))
 clear h
 go_enter Tryz.func12, Tryz.ntmps12
 go_wp2_with (first
  | (go_at_call 23; refine HX.out.mono ?_; clear HX; rintro e w1 ⟨rfl, hw⟩; have hw' := hw.symm; subst hw')
  | (go_at_call 23; refine HY.out.mono ?_; rintro e w1 ⟨rfl, hw⟩; have hw' := hw.symm; subst hw'))
 rcases hr with rfl | ⟨rfl, rfl | ⟨rfl, rfl | ⟨rfl, rfl⟩⟩⟩
 all_goals
  refine wp_region_quiet_below (by kernel_rfl) (by kernel_rfl) ?_
  repeat (first | go_big_quiet_skip | quiet_step (first
   | (go_at_call 38; exact cG _ _)
   | (go_at_call 39; exact cU _ _)
   | (go_at_call 40; exact cQ _ _)
   | (go_at_call 41; exact cH _ _)))
  refine wpQuiet_nil ?_
  intro _ hw'
  obtain ⟨⟨dq, osq⟩, hw''⟩ := hw'
  subst hw''
  have hbE := below_regrown w dq osq
  generalize grow (redrawn w dq) osq = W2 at *
  go_wp2
  go_ret
  exact ⟨rfl, hbE⟩
theorem same_any (w : World) (B1 B2 : Nat) (x y : Bl) (b b' : Bk) (h1 : IsBk w B1 x b) (h2 : IsBk w B2 y b') (r : Bool) (hr : r = true ↔ b = b') :
  Calls Tryz.prog 12 #[.pointer (some ⟨x.p, 0, none⟩), .pointer (some ⟨y.p, 0, none⟩)] w fun e w' => e = .returned (.bool r) ∧ Below w.heap.size w w' := by
 obtain ⟨px, py, r1, r2, r3, r4, r5, h, hi⟩ := SameW.of h1 h2
 have hno : ¬ (((r1 = true ∧ r2 = true) ∧ r3 = true) ∧ r4 = true) → r = false := fun h9 => by
  cases r with
  | false => rfl
  | true => exact absurd (hi.2 (hr.1 rfl)).1 h9
 cases r1 with
 | false => rw [hno (by simp)]; exact same_no w x y b b' px py _ _ _ _ _ h (Or.inl rfl)
 | true => cases r2 with
  | false => rw [hno (by simp)]; exact same_no w x y b b' px py _ _ _ _ _ h (Or.inr ⟨rfl, Or.inl rfl⟩)
  | true => cases r3 with
   | false => rw [hno (by simp)]; exact same_no w x y b b' px py _ _ _ _ _ h (Or.inr ⟨rfl, Or.inr ⟨rfl, Or.inl rfl⟩⟩)
   | true => cases r4 with
    | false => rw [hno (by simp)]; exact same_no w x y b b' px py _ _ _ _ _ h (Or.inr ⟨rfl, Or.inr ⟨rfl, Or.inr ⟨rfl, rfl⟩⟩⟩)
    | true =>
     have : r = r5 := same_as hr (by rw [← hi]; simp)
     rw [this]
     exact same_yes w x y b b' px py r5 h
theorem Enc.Row.of_blocks {α : Type} {E : Enc α} {w w' : World} {B : Nat} {T : TypeId} {v : Value} {m : List α} (h : E.Row w B T v m) (hk : ∀ (g : Nat) (cur : Array Value), w.heap[g]? = some (Obj.cells cur T (0, 0)) → w'.heap[g]? = w.heap[g]?) : E.Row w' B T v m := by
 rcases h.2 with ⟨h1, h2⟩ | ⟨g, cap, cur, hv, hB, hg, h3, h4, h5, h6⟩
 ·exact ⟨h.1, Or.inl ⟨h1, h2⟩⟩
 ·exact ⟨h.1, Or.inr ⟨g, cap, cur, hv, hB, (hk g cur hg).trans hg, h3, h4, h5, h6⟩⟩
theorem RefB.off {w w' : World} {Bq q : Nat} {b b' : Bk} {B : Nat} {x : Bl} (h : RefB w Bq q b) (hx : IsBk w B x b') (hf : Off x.all w w') : RefB w' Bq q b := by
 obtain ⟨ps, bs, hx⟩ := hx
 have key : ∀ {g : Nat} {c : Array Value} {T : TypeId}, w.heap[g]? = some (.cells c T (0, 0)) → T ≠ 77 → w'.heap[g]? = w.heap[g]? := fun {g c T} hg hT => by
  refine hf.block g (Array.getElem?_eq_some_iff.1 hg).1 fun e => ?_
  have hm : ∀ {k : Nat} {L : List Ent}, MapL Tryz.prog 9 w k L → g ≠ k := fun hM e9 => by
   obtain ⟨es, ck, hb, _⟩ := hM
   rw [← e9, hg] at hb
   cases hb
  unfold Bl.all at e
  simp at e
  rcases e with e | e | e | e | e
  ·rw [e, hx.blk] at hg
   injection hg with hg
   injection hg with _ h2 _
   exact hT h2.symm
  ·exact hm hx.G e
  ·exact hm hx.U e
  ·exact hm hx.L e
  ·exact hm hx.H e
 obtain ⟨vG, vL, vS, h1, h2, h3, h4, h5⟩ := h
 exact ⟨vG, vL, vS, (key h1 (by decide)).trans h1, h2.of_blocks fun g c hg => key hg (by decide), h3.of_blocks fun g c hg => key hg (by decide), h4.of_blocks fun g c hg => key hg (by decide), h5⟩
theorem IsBk.turn {w w' : World} {B B' : Nat} {x : Bl} {b : Bk} (h : IsBk w B x b) (ht : Turn B' w w') : IsBk w' B x b := by
 obtain ⟨ps, bs, h⟩ := h
 have hm : ∀ {k : Nat} {L : List Ent} {kt : TypeId}, MapL Tryz.prog kt w k L → w'.heap[k]? = w.heap[k]? := fun {k L kt} hM => by
  rcases ht.keeps k hM.lt with e | ⟨c, f, c', f', T, hT, e1, e2⟩
  ·exact e
  ·obtain ⟨es, ck, hb, _⟩ := hM
   rw [hb] at e1
   cases e1
 have hc : ∀ {k : Nat} {c : Array Value} {T : TypeId}, w.heap[k]? = some (.cells c T (0, 0)) → ¬ refT T → w'.heap[k]? = w.heap[k]? := fun {k c T} hk hT => by
  rcases ht.keeps k (Array.getElem?_eq_some_iff.1 hk).1 with e | ⟨c, f, c', f', T', hT', e1, e2⟩
  ·exact e
  ·rw [hk] at e1
   injection e1 with e1
   injection e1 with _ e5 _
   subst e5
   exact absurd hT' hT
 refine ⟨ps, bs, h.of_blocks fun k hk => ?_⟩
 rcases hk with rfl | rfl | rfl | rfl | rfl | rfl | rfl
 ·exact hc h.blk (by unfold refT; decide)
 ·exact hm h.G
 ·exact hm h.U
 ·exact hm h.L
 ·exact hm h.H
 ·exact hc h.sblk (by unfold refT; decide)
 ·exact hm h.S.map
structure Both (w W : World) (x : Bl) (Bq q : Nat) (b : Bk) : Prop where
 below : Below w.heap.size w W
 prog : IsBk W w.heap.size x b
 ref : RefB W Bq q b
 base : w.heap.size ≤ Bq
theorem Both.later {w W W' : World} {x : Bl} {Bq q : Nat} {b : Bk} (h : Both w W x Bq q b) (hb : Below W.heap.size W W') : Both w W' x Bq q b := ⟨h.below.trans (hb.mono h.below.size), h.prog.below hb, h.ref.below hb, h.base⟩
theorem bookOf_any (pp : Option Addr) (l : List En) (cap : Nat) (w : World) (s : Nat → Addr) (hs : Sent w s) (hh : Handle w) (hz : ∀ e ∈ l, SzE e) (hr : l = [] ∨ ∃ bq off, pp = some ⟨bq, off, none⟩ ∧ Ents w bq off l) (h100 : l.length ≤ 1000) :
  Calls Tryz.prog 7 #[.slice pp l.length cap] w fun e w' => ∃ x Bq q, e = .returned (.tuple #[.pointer (some ⟨x.p, 0, none⟩), .pointer (some ⟨q, 0, none⟩), .bool true]) ∧ Both w w' x Bq q (bkTo l l.length) := by
 have HN : Hid (Calls Tryz.prog 19 _ _ _) := bnew_any w
 have HS : Hid (∀ W, Below w.heap.size w W → Sent W s ∧ Handle W) := fun W hb => ⟨hs.below hb, hh.below hb⟩
 have HZ : Hid (∀ e ∈ l, SzE e) := hz
 have HR : Hid (∀ W k e, l[k]? = some e → Below w.heap.size w W → ∃ bq off, pp = some ⟨bq, off, none⟩ ∧ EntO W bq (off + k * 14) e) := fun W k e he hb => by
  rcases hr with rfl | ⟨bq, off, h1, h2⟩
  ·simp at he
  ·exact ⟨bq, off, h1, (h2.below h2.lt hb).at_ k e he⟩
 obtain ⟨ln, hln⟩ : ∃ ln, l.length = ln := ⟨_, rfl⟩
 have HL : Hid (ln = l.length) := hln.symm
 rw [hln] at h100 ⊢
 clear hs hh hz hr hln
 go_enter Tryz.func7, Tryz.ntmps7
 go_wp2_with (go_at_call 19; refine HN.out.mono ?_; rintro e w1 ⟨x, rfl, hI, hb1⟩; have HI : Hid (IsBk _ _ _ _) := hI; have HB1 : Hid (Below _ _ _) := hb1; clear hI hb1)
 have hb2 : Below w1.heap.size w1 (w1.alloc (.cells #[.slice none 0 0, .slice none 0 0, .slice none 0 0] 68)) := (Below.refl _ w1).alloc (Nat.le_refl _) _
 have n2 := heap_alloc_new w1 (.cells #[.slice none 0 0, .slice none 0 0, .slice none 0 0] 68)
 have HBo : Hid (Both w (w1.alloc (.cells #[.slice none 0 0, .slice none 0 0, .slice none 0 0] 68)) x w1.heap.size w1.heap.size (bkTo l 0)) := ⟨HB1.out.trans (hb2.mono HB1.out.size), HI.out.below hb2, ⟨_, _, _, n2, World.ownsRow_nil _ _ _ _, World.ownsRow_nil _ _ _ _, World.ownsRow_nil _ _ _ _, Nat.le_refl _⟩, HB1.out.size⟩
 clear hb2 n2
 generalize hU : w1.alloc (.cells #[.slice none 0 0, .slice none 0 0, .slice none 0 0] 68) = U at *
 clear hU
 generalize w1.heap.size = q at *
 clear HI HB1
 go_loopw [7] (fun i wr => ∃ k : Nat, k ≤ ln ∧ i = .int .i64 k ∧ Both w wr x q q (bkTo l k)) (fun i _ => ln - (RowKit.intOf i).toNat)
 case atStart => exact ⟨0, Nat.zero_le _, rfl, HBo.out⟩
 case round =>
  obtain ⟨k, hk, rfl, hBo⟩ := hrel
  have HBk : Hid (Both _ _ _ _ _ _) := hBo
  by_cases hlt : k < ln
  ·have hkm : k < l.length := by rw [← HL.out]; exact hlt
   obtain ⟨e, he⟩ : ∃ e, l[k]? = some e := ⟨_, List.getElem?_eq_getElem hkm⟩
   have hze := HZ.out e (List.mem_of_getElem? he)
   obtain ⟨bq, off, rfl, hE⟩ := HR.out wr.drew k e he hBo.below.drew
   have hBd : Both w wr.drew x q q (bkTo l k) := hBo.later (Below.refl _ _).drew
   have hD := bdo_any wr.drew s w.heap.size x (bkTo l k) e hBd.prog hze (HS.out _ hBd.below).1.bs
   have HD2 : Hid (∀ W, Below w.heap.size w W → IsBk W w.heap.size x (bkTo l (k + 1)) → RefB W q q (bkTo l k) → w.heap.size ≤ q → Calls Tryz.prog 22 #[.pointer (some ⟨q, 0, none⟩), agE e] W fun r w' => r = .returned (.int .i64 ((doB (bkTo l k) e).2 : Int)) ∧ Both w w' x q q (bkTo l (k + 1)) ∧ EntO w' bq (off + k * 14) e) := fun W hb h1 h2 h3 =>
    (refDo_any W q q (bkTo l k) e h2 hze (bkTo_ok l k).wf).mono fun r w' ⟨r1, r2, r3⟩ => by
     have hbw : Below w.heap.size w w' := hb.trans (r3.below.mono h3)
     obtain ⟨bq', off', e1, e2⟩ := HR.out w' k e he hbw
     cases e1
     exact ⟨r1, ⟨hbw, h1.turn r3, by rw [bkTo_succ he]; exact r2, h3⟩, e2⟩
   have HE : Hid (∀ W, Below w.heap.size w W → EntO W bq (off + k * 14) e) := fun W hb => by
    obtain ⟨bq', off', e1, e2⟩ := HR.out W k e he hb
    cases e1
    exact e2
   have HD1 : Hid (Calls Tryz.prog 11 #[.pointer (some ⟨x.p, 0, none⟩), agE e] wr.drew fun r w' => r = .returned (errP s (doB (bkTo l k) e).2) ∧ Below w.heap.size w w' ∧ IsBk w' w.heap.size x (bkTo l (k + 1)) ∧ RefB w' q q (bkTo l k)) := hD.mono fun r w' ⟨r1, r2, r3⟩ => ⟨r1, hBd.below.trans (r3.below hBd.below.size (fun k hk => (hBd.prog.low k hk).1)), by rw [bkTo_succ he]; exact r2, hBd.ref.off hBd.prog r3⟩
   have HCd : Hid (∀ W, Below w.heap.size w W → Calls Tryz.prog 21 #[errP s (doB (bkTo l k) e).2, .int .i64 ((doB (bkTo l k) e).2 : Int)] W fun r w' => r = .returned (.bool true) ∧ Below W.heap.size W w') := fun W hb => by
    have := codedP_any2 s (doB (bkTo l k) e).2 (doB_le _ _) ((doB (bkTo l k) e).2 : Int) W (HS.out W hb).1 (HS.out W hb).2
    simpa using this
   have Hq : Hid (w.heap.size ≤ q) := hBo.base
   generalize (doB (bkTo l k) e).2 = C at *
   obtain ⟨c0, c1, c2, c3, c4, c5, c6, c7, c8, c9, c10, c11, c12, c13⟩ := hE
   clear hD hze hkm hBo hBd he
   obtain ⟨ak, ⟨agc, agp⟩, ⟨ali, alc, alu, alk⟩, ⟨afz, afr, afb⟩, ⟨atz, atr, atb⟩, an⟩ := e
   unfold agE at *
   simp only at c0 c1 c2 c3 c4 c5 c6 c7 c8 c9 c10 c11 c12 c13 HD1 HD2 HE
   go_wp2
   go_region_held3 (fun w' => w'.cell? ⟨bq, off + k * 14, none⟩ = some (.string ak) ∧ w'.cell? ⟨bq, off + k * 14 + 1, none⟩ = some (.string agc) ∧ w'.cell? ⟨bq, off + k * 14 + 2, none⟩ = some (.int .i64 agp) ∧ w'.cell? ⟨bq, off + k * 14 + 3, none⟩ = some (.string ali) ∧ w'.cell? ⟨bq, off + k * 14 + 4, none⟩ = some (.string alc) ∧ w'.cell? ⟨bq, off + k * 14 + 5, none⟩ = some (.int .i64 alu) ∧ w'.cell? ⟨bq, off + k * 14 + 6, none⟩ = some (.int .i64 alk) ∧ w'.cell? ⟨bq, off + k * 14 + 7, none⟩ = some (.string afz) ∧ w'.cell? ⟨bq, off + k * 14 + 8, none⟩ = some (.int .i64 afr) ∧ w'.cell? ⟨bq, off + k * 14 + 9, none⟩ = some (.int .i64 afb) ∧ w'.cell? ⟨bq, off + k * 14 + 10, none⟩ = some (.string atz) ∧ w'.cell? ⟨bq, off + k * 14 + 11, none⟩ = some (.int .i64 atr) ∧ w'.cell? ⟨bq, off + k * 14 + 12, none⟩ = some (.int .i64 atb) ∧ w'.cell? ⟨bq, off + k * 14 + 13, none⟩ = some (.int .i64 an)) (go_keep) (first | (go_at_call 11; refine HD1.out.mono ?_; rintro r w3 ⟨rfl, hb3, hi3, hr3⟩; obtain ⟨d0, d1, d2, d3, d4, d5, d6, d7, d8, d9, d10, d11, d12, d13⟩ := HE.out _ hb3; (try simp only at d0 d1 d2 d3 d4 d5 d6 d7 d8 d9 d10 d11 d12 d13); have Hb3 : Hid (Below _ _ _) := hb3; have Hi3 : Hid (IsBk _ _ _ _) := hi3; have Hr3 : Hid (RefB _ _ _ _) := hr3; clear hb3 hi3 hr3) | (go_at_call 22; refine (HD2.out _ Hb3.out Hi3.out Hr3.out Hq.out).mono ?_; rintro r w4 ⟨rfl, hB4, hE4⟩; obtain ⟨f0, f1, f2, f3, f4, f5, f6, f7, f8, f9, f10, f11, f12, f13⟩ := hE4; (try simp only at f0 f1 f2 f3 f4 f5 f6 f7 f8 f9 f10 f11 f12 f13); have HB4 : Hid (Both _ _ _ _ _ _) := hB4; clear hB4) | (go_at_call 21; refine (HCd.out _ HB4.out.below).mono ?_; rintro r w5 ⟨rfl, hb5⟩; have hB5 := HB4.out.later hb5; obtain ⟨g0, g1, g2, g3, g4, g5, g6, g7, g8, g9, g10, g11, g12, g13⟩ := HE.out _ hB5.below; (try simp only at g0 g1 g2 g3 g4 g5 g6 g7 g8 g9 g10 g11 g12 g13); have HB5 : Hid (Both _ _ _ _ _ _) := hB5; clear hB5 hb5))
   go_wp2
   go_roundw
   case rel => exact ⟨k + 1, by omega, by go_num, HB5.out⟩
   case measure => simp [RowKit.intOf]; omega
  ·have hkn : k = ln := by omega
   subst hkn
   go_wp2
   exact bodyPost_ret (v := .tuple #[.pointer (some ⟨x.p, 0, none⟩), .pointer (some ⟨q, 0, none⟩), .bool true]) (by simp [results, Tryz.results7, go_sem]) rfl ⟨x, q, q, rfl, HBk.out⟩
end Go.Proofs.YtefkchmahcjleaaGreatDoor
