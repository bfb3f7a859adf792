/-
  Plain mathematics of a book: what an entry does, kind by kind; pieces of goods.
-/
import Derived.Test.YtppodkkefegbkaaGreatDoorBMath
import Derived.Test.YtppodkkefegbkaaGreatDoorJz11
import Derived.Test.YtppodkkefegbkaaGreatDoorJz13
import Derived.OwnWalk
import Derived.Lib.SmallJoins
import Derived.BigQuiet
set_option maxRecDepth 100000
set_option maxHeartbeats 16000000
namespace Go.Proofs.YtppodkkefegbkaaGreatDoor
open Go.Lib Go.Sort
theorem findI_idx {α : Type} {f : α → ByteArray} {m : List α} {c : ByteArray} {k : Nat} (h : findI f m c = (k : Int)) : m.findIdx? (fun x => decide (f x = c)) = some k := by
  unfold findI at h
  cases hh : m.findIdx? (fun x => decide (f x = c)) with
  | none => rw [hh] at h; simp only at h; omega
  | some j => rw [hh] at h; simp only at h; congr 1; omega
theorem findI_no {α : Type} {f : α → ByteArray} {m : List α} {c : ByteArray} (h : findI f m c < 0) : m.findIdx? (fun x => decide (f x = c)) = none := by
  unfold findI at h
  cases hh : m.findIdx? (fun x => decide (f x = c)) with
  | none => rfl
  | some j => rw [hh] at h; simp only at h; omega
theorem doB_err {b : Bk} {e : En} (he : entErr e ≠ 0) : doB b e = (b, entErr e) := by unfold doB; rw [if_neg he]
theorem doB_goods {b : Bk} {e : En} (he : entErr e = 0) (hk : e.1 = kGoods) : doB b e = if goodsE b e.2.1 = 0 then (goodsB b e.2.1, 0) else (b, goodsE b e.2.1) := by unfold doB; rw [if_pos he, hk, kd_goods]
theorem doB_lot {b : Bk} {e : En} (he : entErr e = 0) (hk : e.1 = kLot) : doB b e = if lotBE b e.2.2.1 = 0 then (lotB b e.2.2.1, 0) else (b, lotBE b e.2.2.1) := by unfold doB; rw [if_pos he, hk, kd_lot]
theorem piece_kind {k : ByteArray} (h1 : k ≠ kGoods) (h2 : k ≠ kLot) : kd k ≠ .goods ∧ kd k ≠ .lot := by
  rcases kind_cases k with h | h | (h | h) | (h | h) | h | (h | h) | h
  · exact absurd h h1
  · exact absurd h h2
  · rw [h]; exact ⟨by nofun, by nofun⟩
  · rw [h]; exact ⟨by nofun, by nofun⟩
  · rw [h]; exact ⟨by nofun, by nofun⟩
  · rw [h]; exact ⟨by nofun, by nofun⟩
  · rw [h]; exact ⟨by nofun, by nofun⟩
  · rw [h]; exact ⟨by nofun, by nofun⟩
  · rw [h]; exact ⟨by nofun, by nofun⟩
  · rw [h.kd]; exact ⟨by nofun, by nofun⟩
theorem doB_none {b : Bk} {e : En} (he : entErr e = 0) (h1 : e.1 ≠ kGoods) (h2 : e.1 ≠ kLot) (h : findI nameL b.2.1 e.2.2.1.1 < 0) : doB b e = (b, 6) := by
  obtain ⟨n1, n2⟩ := piece_kind h1 h2
  unfold doB
  rw [if_pos he]
  cases hd : kd e.1 with
  | goods => exact absurd hd n1
  | lot => exact absurd hd n2
  | _ => simp only [findI_no h]
theorem doB_at {b : Bk} {e : En} {k i : Nat} {l : Lh} {g : Gs} (he : entErr e = 0) (h1 : e.1 ≠ kGoods) (h2 : e.1 ≠ kLot) (hkL : findI nameL b.2.1 e.2.2.1.1 = (k : Int)) (hl : b.2.1[k]? = some l) (hiG : findI nameG b.1 l.1.2.1 = (i : Int)) (hg : b.1[i]? = some g) : doB b e = if pieceE b e l g = 0 then (pieceB b e k l i g, 0) else (b, pieceE b e l g) := by
  obtain ⟨n1, n2⟩ := piece_kind h1 h2
  unfold doB
  rw [if_pos he]
  cases hd : kd e.1 with
  | goods => exact absurd hd n1
  | lot => exact absurd hd n2
  | _ => simp only [findI_idx hkL, hl, findI_idx hiG, hg]
theorem piece_num {e : En} (he : entErr e = 0) (h1 : e.1 ≠ kGoods) (h2 : e.1 ≠ kLot) : 1 ≤ e.2.2.2.2.2 ∧ e.2.2.2.2.2 ≤ 1099511627776 := by
  have h0 := (entErr_own he).1
  obtain ⟨n1, n2⟩ := piece_kind h1 h2
  unfold ownErr at h0
  cases hd : kd e.1 with
  | goods => exact absurd hd n1
  | lot => exact absurd hd n2
  | other => rw [hd] at h0; simp at h0
  | _ => rw [hd] at h0; exact (pieceErr_zero h0).2.2.2
end Go.Proofs.YtppodkkefegbkaaGreatDoor
namespace Go.Proofs.YtppodkkefegbkaaGreatDoor
open Go.Lib Go.Sort
variable {α : Type}
theorem insC_nil (f : α → ByteArray) (x : α) : insC f [] x = [x] := rfl
theorem insC_cons (f : α → ByteArray) (y : α) (m : List α) (x : α) : insC f (y :: m) x = if zLt (f y) (f x) = true then y :: insC f m x else x :: y :: m := by
  unfold insC
  cases h : zLt (f y) (f x) with
  | true =>
    have e : aheadC f (f x) (y :: m) = aheadC f (f x) m + 1 := by unfold aheadC; rw [if_pos h]; cases m <;> rfl
    rw [e]; simp
  | false =>
    have e : aheadC f (f x) (y :: m) = 0 := by unfold aheadC; rw [if_neg (by rw [h]; decide)]
    rw [e]; simp
theorem insC_mem (f : α → ByteArray) : ∀ (m : List α) (x z : α), z ∈ insC f m x ↔ z = x ∨ z ∈ m
  | [], x, z => by rw [insC_nil]; simp
  | y :: m, x, z => by
    rw [insC_cons]
    split
    · rw [List.mem_cons, insC_mem f m x z, List.mem_cons]
      constructor
      · rintro (h | h | h)
        · exact Or.inr (Or.inl h)
        · exact Or.inl h
        · exact Or.inr (Or.inr h)
      · rintro (h | h | h)
        · exact Or.inr (Or.inl h)
        · exact Or.inl h
        · exact Or.inr (Or.inr h)
    · rw [List.mem_cons]
theorem insC_length (f : α → ByteArray) (m : List α) (x : α) : (insC f m x).length = m.length + 1 := by
  have := aheadC_le f (f x) m
  unfold insC
  rw [List.length_append, List.length_cons, List.length_take, List.length_drop]
  omega
theorem insC_sorted {f : α → ByteArray} : ∀ {m : List α} {x : α}, m.Pairwise (fun a b => zLt (f a) (f b) = true) → (∀ y ∈ m, f y ≠ f x) → (insC f m x).Pairwise (fun a b => zLt (f a) (f b) = true)
  | [], x, _, _ => by rw [insC_nil]; exact List.pairwise_singleton _ _
  | y :: m, x, hs, hn => by
    rw [insC_cons]
    obtain ⟨h1, h2⟩ := List.pairwise_cons.1 hs
    cases h : zLt (f y) (f x) with
    | true =>
      rw [if_pos rfl]
      refine List.pairwise_cons.2 ⟨fun z hz => ?_, insC_sorted h2 fun z hz => hn z (List.mem_cons_of_mem _ hz)⟩
      rcases (insC_mem f m x z).1 hz with rfl | hz
      · exact h
      · exact h1 z hz
    | false =>
      rw [if_neg (by decide)]
      have hxy : zLt (f x) (f y) = true := by
        cases h' : zLt (f x) (f y) with
        | true => rfl
        | false => exact absurd (zLt_total h h') (hn y (List.mem_cons_self ..))
      refine List.pairwise_cons.2 ⟨fun z hz => ?_, hs⟩
      rcases List.mem_cons.1 hz with rfl | hz
      · exact hxy
      · exact zLt_trans hxy (h1 z hz)
theorem findI_neg {f : α → ByteArray} {m : List α} {c : ByteArray} (h : ¬ 0 ≤ findI f m c) : ∀ y ∈ m, f y ≠ c := by
  rcases findI_cases f m c with ⟨_, h'⟩ | ⟨i, x, h', _⟩
  · exact h'
  · omega
theorem findI_mem {f : α → ByteArray} {m : List α} {c : ByteArray} (h : ¬ findI f m c < 0) : ∃ y ∈ m, f y = c := by
  rcases findI_cases f m c with ⟨h', _⟩ | ⟨i, x, _, h1, h2⟩
  · omega
  · exact ⟨x, List.mem_of_getElem? h1, h2⟩
theorem set_map {β : Type} {f : α → β} {m : List α} {i : Nat} {x y : α} (hx : m[i]? = some x) (hf : f y = f x) : (m.set i y).map f = m.map f := by
  apply List.ext_getElem?
  intro j
  rw [List.getElem?_map, List.getElem?_map, List.getElem?_set]
  by_cases hj : i = j
  · subst hj
    have hi := (List.getElem?_eq_some_iff.1 hx).1
    rw [if_pos rfl, if_pos hi, hx]
    simp [hf]
  · rw [if_neg hj]
theorem sorted_map {f : α → ByteArray} {m : List α} : m.Pairwise (fun a b => zLt (f a) (f b) = true) ↔ (m.map f).Pairwise (fun a b => zLt a b = true) := by rw [List.pairwise_map]
theorem set_sorted {f : α → ByteArray} {m : List α} {i : Nat} {x y : α} (hs : m.Pairwise (fun a b => zLt (f a) (f b) = true)) (hx : m[i]? = some x) (hf : f y = f x) : (m.set i y).Pairwise (fun a b => zLt (f a) (f b) = true) := by
  rw [sorted_map, set_map hx hf, ← sorted_map]; exact hs
theorem sorted_ne {f : α → ByteArray} {m : List α} {i j : Nat} {x y : α} (hs : m.Pairwise (fun a b => zLt (f a) (f b) = true)) (hx : m[i]? = some x) (hy : m[j]? = some y) (hij : i ≠ j) : f x ≠ f y := by
  obtain ⟨hi, rfl⟩ := List.getElem?_eq_some_iff.1 hx
  obtain ⟨hj, rfl⟩ := List.getElem?_eq_some_iff.1 hy
  have hp := List.pairwise_iff_getElem.1 hs
  intro e
  rcases Nat.lt_or_ge i j with h | h
  · have := hp i j hi hj h
    rw [e, zLt_irrefl] at this; cases this
  · have := hp j i hj hi (by omega)
    rw [e, zLt_irrefl] at this; cases this
theorem stkL_wf {e : En} {m : List Ln} (h : Wf m) : Wf (stkL e m) := by
  unfold stkL
  cases kd e.1 with
  | tow => exact h.put _ _ _
  | frm => exact h.take _ _
  | move => exact h.move _ _ _ _
  | _ => exact h
theorem stkL_other {e : En} {m : List Ln} (h : Wf m) {c : ByteArray} (hc : c ≠ e.2.2.1.1) : ofL (stkL e m) c = ofL m c := by
  have key : ∀ (x : Pl) (n : Int), ofL (withL m (x, e.2.2.1.1) n) c = ofL m c := fun x n => by
    rw [withL_ofL h.sorted, if_neg (fun e9 => hc e9.symm)]; omega
  unfold stkL
  cases kd e.1 with
  | tow =>
    simp only
    unfold putL
    split
    · exact key _ _
    · rfl
  | frm =>
    simp only
    unfold takeL
    split
    · exact key _ _
    · rfl
  | move =>
    simp only
    unfold moveL
    split
    · rw [withL_ofL (withL_sorted h.sorted _ _), if_neg (fun e9 => hc e9.symm), key]; omega
    · rfl
  | _ => rfl
structure BkOk (b : Bk) : Prop where
  wf : WfB b
  gs : b.1.Pairwise (fun x y => zLt (nameG x) (nameG y) = true)
  ls : b.2.1.Pairwise (fun x y => zLt (nameL x) (nameL y) = true)
theorem BkOk.nil : BkOk ([], [], []) := ⟨⟨by decide, by decide, Wf.nil, by simp, by simp, by simp⟩, List.Pairwise.nil, List.Pairwise.nil⟩
theorem BkOk.goods {b : Bk} (h : BkOk b) {g : Gd} (h0 : goodsE b g = 0) : BkOk (goodsB b g) := by
  have h1 : ¬ 0 ≤ findI nameG b.1 g.1 := fun e => by unfold goodsE at h0; rw [if_pos e] at h0; omega
  have h2 : ¬ 30 ≤ b.1.length := fun e => by unfold goodsE at h0; rw [if_neg h1, if_pos e] at h0; omega
  refine ⟨⟨?_, h.wf.ll, h.wf.st, ?_, ?_, h.wf.held⟩, insC_sorted h.gs (findI_neg h1), h.ls⟩
  · show (insC nameG b.1 (g, zeroSu)).length ≤ 30
    rw [insC_length]; omega
  · intro l hl
    obtain ⟨x, hx, e⟩ := h.wf.lots l hl
    exact ⟨x, (insC_mem _ _ _ _).2 (Or.inr hx), e⟩
  · intro x hx
    rcases (insC_mem nameG b.1 (g, zeroSu) x).1 hx with rfl | hx
    · exact ⟨⟨Int.le_refl 0, Int.le_refl 0, Int.le_refl 0, Int.le_refl 0⟩, (by decide : okSu zeroSu = true)⟩
    · exact h.wf.sums x hx
theorem BkOk.lot {b : Bk} (h : BkOk b) {l : Lo} (h0 : lotBE b l = 0) : BkOk (lotB b l) := by
  have h1 : ¬ 0 ≤ findI nameL b.2.1 l.1 := fun e => by unfold lotBE at h0; rw [if_pos e] at h0; omega
  have h2 : ¬ findI nameG b.1 l.2.1 < 0 := fun e => by unfold lotBE at h0; rw [if_neg h1, if_pos e] at h0; omega
  have h3 : ¬ 60 ≤ b.2.1.length := fun e => by unfold lotBE at h0; rw [if_neg h1, if_neg h2, if_pos e] at h0; omega
  refine ⟨⟨h.wf.gl, ?_, h.wf.st, ?_, h.wf.sums, ?_⟩, h.gs, insC_sorted h.ls (findI_neg h1)⟩
  · show (insC nameL b.2.1 (l, 0)).length ≤ 60
    rw [insC_length]; omega
  · intro x hx
    rcases (insC_mem nameL b.2.1 (l, 0) x).1 hx with rfl | hx
    · exact findI_mem h2
    · exact h.wf.lots x hx
  · intro x hx
    rcases (insC_mem nameL b.2.1 (l, 0) x).1 hx with rfl | hx
    · exact ⟨Int.le_refl _, (h.wf.st.of_bound _).1⟩
    · exact h.wf.held x hx
theorem addSu_pos {k : ByteArray} {s : Su} {n : Int} (hn : 0 ≤ n) (h : 0 ≤ s.1 ∧ 0 ≤ s.2.1 ∧ 0 ≤ s.2.2.1 ∧ 0 ≤ s.2.2.2) : 0 ≤ (addSu k s n).1 ∧ 0 ≤ (addSu k s n).2.1 ∧ 0 ≤ (addSu k s n).2.2.1 ∧ 0 ≤ (addSu k s n).2.2.2 := by
  obtain ⟨h1, h2, h3, h4⟩ := h
  unfold addSu
  repeat' split
  all_goals
    refine ⟨?_, ?_, ?_, ?_⟩
    all_goals
      (try simp only)
      omega
theorem BkOk.piece {b : Bk} (h : BkOk b) {e : En} {k i : Nat} {l : Lh} {g : Gs} (hn : 0 ≤ e.2.2.2.2.2) (hl : b.2.1[k]? = some l) (hid : nameL l = e.2.2.1.1) (hg : b.1[i]? = some g) (h0 : pieceE b e l g = 0) : BkOk (pieceB b e k l i g) := by
  unfold pieceE at h0
  by_cases c0 : stkE e b.2.2 = 0
  · rw [if_pos c0] at h0
    by_cases c1 : heldN e.1 l.2 e.2.2.2.2.2 < 0 ∨ ofL (stkL e b.2.2) e.2.2.1.1 < heldN e.1 l.2 e.2.2.2.2.2
    · rw [if_pos c1] at h0; omega
    · rw [if_neg c1] at h0
      cases c2 : okSu (addSu e.1 g.2 e.2.2.2.2.2) with
      | false => rw [c2] at h0; simp at h0
      | true =>
        unfold pieceB
        have mG : (b.1.set i (g.1, addSu e.1 g.2 e.2.2.2.2.2)).map nameG = b.1.map nameG := set_map hg rfl
        refine ⟨⟨?_, ?_, stkL_wf h.wf.st, ?_, ?_, ?_⟩, set_sorted h.gs hg rfl, set_sorted h.ls hl rfl⟩
        · show (b.1.set i _).length ≤ 30
          rw [List.length_set]; exact h.wf.gl
        · show (b.2.1.set k _).length ≤ 60
          rw [List.length_set]; exact h.wf.ll
        · intro x hx
          have hc : ∃ y ∈ b.1, nameG y = x.1.2.1 := by
            rcases List.mem_or_eq_of_mem_set hx with hx | hx
            · exact h.wf.lots x hx
            · rw [hx]; exact h.wf.lots l (List.mem_of_getElem? hl)
          obtain ⟨y, hy, e9⟩ := hc
          have : x.1.2.1 ∈ (b.1.set i (g.1, addSu e.1 g.2 e.2.2.2.2.2)).map nameG := by
            rw [mG]; exact List.mem_map.2 ⟨y, hy, e9⟩
          obtain ⟨z, hz, e8⟩ := List.mem_map.1 this
          exact ⟨z, hz, e8⟩
        · intro x hx
          rcases List.mem_or_eq_of_mem_set hx with hx | hx
          · exact h.wf.sums x hx
          · rw [hx]
            exact ⟨addSu_pos hn (h.wf.sums g (List.mem_of_getElem? hg)).1, c2⟩
        · intro x hx
          obtain ⟨j, hj⟩ := List.getElem?_of_mem hx
          simp only at hj ⊢
          rw [List.getElem?_set] at hj
          by_cases hkj : k = j
          · have hk' := (List.getElem?_eq_some_iff.1 hl).1
            rw [if_pos hkj, if_pos (by omega)] at hj
            injection hj with hj
            rw [← hj]
            have : l.1.1 = e.2.2.1.1 := hid
            simp only
            rw [this]
            omega
          · rw [if_neg hkj] at hj
            have hne : x.1.1 ≠ e.2.2.1.1 := by
              have h9 := sorted_ne (f := nameL) h.ls hj hl (fun e9 => hkj e9.symm)
              rw [hid] at h9
              exact h9
            rw [stkL_other h.wf.st hne]
            exact h.wf.held x (List.mem_of_getElem? hj)
  · rw [if_neg c0] at h0; exact absurd h0 c0
end Go.Proofs.YtppodkkefegbkaaGreatDoor
namespace Go.Proofs.YtppodkkefegbkaaGreatDoor
open Go.RowKit Go.Lib Go.Sort
theorem BkOk.do_ {b : Bk} (h : BkOk b) (e : En) : BkOk (doB b e).1 := by
  by_cases he : entErr e = 0
  · by_cases h1 : e.1 = kGoods
    · rw [doB_goods he h1]
      split
      · rename_i h0; exact h.goods h0
      · exact h
    by_cases h2 : e.1 = kLot
    · rw [doB_lot he h2]
      split
      · rename_i h0; exact h.lot h0
      · exact h
    rcases findI_cases nameL b.2.1 e.2.2.1.1 with ⟨h9, _⟩ | ⟨k, l, hkL, hl, hid⟩
    · rw [doB_none he h1 h2 (by omega)]; exact h
    · obtain ⟨g0, hg0, hg1⟩ := h.wf.lots l (List.mem_of_getElem? hl)
      rcases findI_cases nameG b.1 l.1.2.1 with ⟨_, h8⟩ | ⟨i, g, hiG, hg, _⟩
      · exact absurd hg1 (h8 g0 hg0)
      · rw [doB_at he h1 h2 hkL hl hiG hg]
        split
        · rename_i h0
          exact h.piece (by have := (piece_num he h1 h2).1; omega) hl hid hg h0
        · exact h
  · rw [doB_err he]; exact h
theorem doB_le (b : Bk) (e : En) : (doB b e).2 ≤ 12 := by
  by_cases he : entErr e = 0
  · unfold doB
    rw [if_pos he]
    have hp : ∀ l g, pieceE b e l g ≤ 12 := fun l g => by
      unfold pieceE
      have h1 : stkE e b.2.2 ≤ 12 := by
        unfold stkE
        cases kd e.1 with
        | tow => exact putE_le _ _ _ _
        | frm => exact takeE_le _ _ _
        | move => exact moveE_le _ _ _ _ _
        | _ => exact Nat.zero_le _
      repeat' split
      all_goals omega
    have hg : goodsE b e.2.1 ≤ 12 := by unfold goodsE; repeat' split
                                        all_goals omega
    have hl : lotBE b e.2.2.1 ≤ 12 := by unfold lotBE; repeat' split
                                         all_goals omega
    repeat' split
    all_goals first | exact hg | exact hl | exact hp _ _ | (show (0 : Nat) ≤ 12; omega) | (show (6 : Nat) ≤ 12; omega)
  · rw [doB_err he]; exact entErr_le e
structure EntO (w : World) (q o : Nat) (e : En) : Prop where
  c0 : w.cell? ⟨q, o, none⟩ = some (.string e.1)
  c1 : w.cell? ⟨q, o + 1, none⟩ = some (.string e.2.1.1)
  c2 : w.cell? ⟨q, o + 2, none⟩ = some (.int .i64 e.2.1.2)
  c3 : w.cell? ⟨q, o + 3, none⟩ = some (.string e.2.2.1.1)
  c4 : w.cell? ⟨q, o + 4, none⟩ = some (.string e.2.2.1.2.1)
  c5 : w.cell? ⟨q, o + 5, none⟩ = some (.int .i64 e.2.2.1.2.2.1)
  c6 : w.cell? ⟨q, o + 6, none⟩ = some (.int .i64 e.2.2.1.2.2.2)
  c7 : w.cell? ⟨q, o + 7, none⟩ = some (.string e.2.2.2.1.1)
  c8 : w.cell? ⟨q, o + 8, none⟩ = some (.int .i64 e.2.2.2.1.2.1)
  c9 : w.cell? ⟨q, o + 9, none⟩ = some (.int .i64 e.2.2.2.1.2.2)
  c10 : w.cell? ⟨q, o + 10, none⟩ = some (.string e.2.2.2.2.1.1)
  c11 : w.cell? ⟨q, o + 11, none⟩ = some (.int .i64 e.2.2.2.2.1.2.1)
  c12 : w.cell? ⟨q, o + 12, none⟩ = some (.int .i64 e.2.2.2.2.1.2.2)
  c13 : w.cell? ⟨q, o + 13, none⟩ = some (.int .i64 e.2.2.2.2.2)
theorem EntO.of_block {w w' : World} {q o : Nat} {e : En} (h : EntO w q o e) (hb : w'.heap[q]? = w.heap[q]?) : EntO w' q o e where
  c0 := (World.cell?_of_block (a := ⟨q, o, none⟩) hb).trans h.c0
  c1 := (World.cell?_of_block (a := ⟨q, o + 1, none⟩) hb).trans h.c1
  c2 := (World.cell?_of_block (a := ⟨q, o + 2, none⟩) hb).trans h.c2
  c3 := (World.cell?_of_block (a := ⟨q, o + 3, none⟩) hb).trans h.c3
  c4 := (World.cell?_of_block (a := ⟨q, o + 4, none⟩) hb).trans h.c4
  c5 := (World.cell?_of_block (a := ⟨q, o + 5, none⟩) hb).trans h.c5
  c6 := (World.cell?_of_block (a := ⟨q, o + 6, none⟩) hb).trans h.c6
  c7 := (World.cell?_of_block (a := ⟨q, o + 7, none⟩) hb).trans h.c7
  c8 := (World.cell?_of_block (a := ⟨q, o + 8, none⟩) hb).trans h.c8
  c9 := (World.cell?_of_block (a := ⟨q, o + 9, none⟩) hb).trans h.c9
  c10 := (World.cell?_of_block (a := ⟨q, o + 10, none⟩) hb).trans h.c10
  c11 := (World.cell?_of_block (a := ⟨q, o + 11, none⟩) hb).trans h.c11
  c12 := (World.cell?_of_block (a := ⟨q, o + 12, none⟩) hb).trans h.c12
  c13 := (World.cell?_of_block (a := ⟨q, o + 13, none⟩) hb).trans h.c13
structure Ents (w : World) (q o : Nat) (l : List En) : Prop where
  lt : q < w.heap.size
  at_ : ∀ k e, l[k]? = some e → EntO w q (o + k * 14) e
theorem Ents.below {w w' : World} {B q o : Nat} {l : List En} (h : Ents w q o l) (hB : q < B) (hb : Below B w w') : Ents w' q o l :=
  ⟨Nat.lt_of_lt_of_le h.lt hb.size, fun k e hk => (h.at_ k e hk).of_block (hb.block q hB)⟩
end Go.Proofs.YtppodkkefegbkaaGreatDoor
namespace Go.Proofs.YtppodkkefegbkaaGreatDoor
open Go.RowKit Go.Lib Go.Sort
structure Enc (α : Type) where
  k : Nat
  enc : α → List Value
  len : ∀ x, (enc x).length = k
  one : ∀ x, ∀ v ∈ enc x, v.oneCell' = true
variable {α : Type}
def Enc.flat (E : Enc α) (m : List α) : List Value := m.flatMap E.enc
theorem Enc.flat_append (E : Enc α) (a b : List α) : E.flat (a ++ b) = E.flat a ++ E.flat b := by unfold Enc.flat; rw [List.flatMap_append]
theorem Enc.flat_one (E : Enc α) (x : α) : E.flat [x] = E.enc x := by unfold Enc.flat; simp
theorem Enc.flat_len (E : Enc α) (m : List α) : (E.flat m).length = m.length * E.k := by
  unfold Enc.flat
  induction m with
  | nil => simp
  | cons x m ih => rw [List.flatMap_cons, List.length_append, ih, E.len, List.length_cons, Nat.succ_mul]; omega
theorem Enc.flat_cell (E : Enc α) (m : List α) : ∀ v ∈ E.flat m, v.oneCell' = true := by
  intro v hv
  unfold Enc.flat at hv
  obtain ⟨x, _, h⟩ := List.mem_flatMap.1 hv
  exact E.one x v h
theorem Enc.flat_get (E : Enc α) : ∀ {m : List α} {i : Nat} {x : α} (c : Nat), m[i]? = some x → c < E.k → (E.flat m)[i * E.k + c]? = (E.enc x)[c]?
  | [], i, x, c, h, hc => by simp at h
  | y :: m, 0, x, c, h, hc => by
    obtain rfl : y = x := by simpa using h
    unfold Enc.flat
    rw [List.flatMap_cons, List.getElem?_append_left (by rw [E.len]; omega)]
    simp
  | y :: m, i + 1, x, c, h, hc => by
    have h' : m[i]? = some x := by simpa using h
    have ih := E.flat_get (m := m) c h' hc
    unfold Enc.flat at *
    rw [List.flatMap_cons, List.getElem?_append_right (by rw [E.len, Nat.succ_mul]; omega), E.len, ← ih]
    congr 1
    rw [Nat.succ_mul]; omega
theorem Enc.flat_take (E : Enc α) (m : List α) (n : Nat) (h : n ≤ m.length) : (E.flat m).take (n * E.k) = E.flat (m.take n) := by
  have e : m = m.take n ++ m.drop n := (List.take_append_drop n m).symm
  have hl : (E.flat (m.take n)).length = n * E.k := by rw [E.flat_len, List.length_take, Nat.min_eq_left h]
  conv => lhs; rw [e, E.flat_append]
  rw [← hl, List.take_left']
  rfl
theorem Enc.flat_drop (E : Enc α) (m : List α) (n : Nat) (h : n ≤ m.length) : (E.flat m).drop (n * E.k) = E.flat (m.drop n) := by
  have e : m = m.take n ++ m.drop n := (List.take_append_drop n m).symm
  have hl : (E.flat (m.take n)).length = n * E.k := by rw [E.flat_len, List.length_take, Nat.min_eq_left h]
  conv => lhs; rw [e, E.flat_append]
  rw [← hl, List.drop_left']
  rfl
def Enc.Row (E : Enc α) (w : World) (B : Nat) (T : TypeId) (v : Value) (m : List α) : Prop := w.ownsRow B T E.k v m.length (E.flat m)
theorem Enc.Row.nil (E : Enc α) (w : World) (B : Nat) (T : TypeId) : E.Row w B T (.slice none 0 0) [] := World.ownsRow_nil w B T E.k
theorem Enc.Row.forms {E : Enc α} {w : World} {B : Nat} {T : TypeId} {v : Value} {m : List α} (h : E.Row w B T v m) :
    (v = .slice none 0 0 ∧ m = []) ∨ ∃ g cap, v = .slice (some ⟨g, 0, none⟩) m.length cap ∧ B ≤ g ∧ g < w.heap.size ∧ m.length ≤ cap ∧ (∀ o, w.frozen? ⟨g, o, none⟩ = false) ∧ ∀ i x c, m[i]? = some x → c < E.k → w.cell? ⟨g, i * E.k + c, none⟩ = (E.enc x)[c]? := by
  have h0 := h
  rcases h.2 with ⟨h1, h2⟩ | ⟨g, cap, cur, rfl, hb, hg, hle, -, -, -⟩
  · exact Or.inl ⟨h1, List.eq_nil_of_length_eq_zero h2⟩
  · refine Or.inr ⟨g, cap, rfl, hb, (Array.getElem?_eq_some_iff.1 hg).1, hle, fun o => frozen_of_heap hg o, fun i x c hx hc => ?_⟩
    have hi := (List.getElem?_eq_some_iff.1 hx).1
    have hlt : i * E.k + c < m.length * E.k := by
      have : (i + 1) * E.k ≤ m.length * E.k := Nat.mul_le_mul_right _ hi
      rw [Nat.succ_mul] at this
      omega
    rw [World.ownsRow.cellAt h0 (i * E.k + c) hlt]
    exact E.flat_get c hx hc
theorem Enc.Row.kept {E : Enc α} {w w' : World} {B : Nat} {T : TypeId} {v : Value} {m : List α} (h : E.Row w B T v m) (hb : ∀ g, v.ownBlock = some g → w'.heap[g]? = w.heap[g]?) : E.Row w' B T v m := by
  refine ⟨h.1, ?_⟩
  rcases h.2 with h1 | ⟨g, cap, cur, rfl, h2, hg, h3⟩
  · exact Or.inl h1
  · exact Or.inr ⟨g, cap, cur, rfl, h2, (hb g rfl).trans hg, h3⟩
theorem Enc.Row.lt {E : Enc α} {w : World} {B : Nat} {T : TypeId} {v : Value} {m : List α} (h : E.Row w B T v m) {g : Nat} (hg : v.ownBlock = some g) : B ≤ g ∧ g < w.heap.size := World.ownsRow.lt h g hg
theorem Enc.Row.below {E : Enc α} {w w' : World} {B : Nat} {T : TypeId} {v : Value} {m : List α} (h : E.Row w B T v m) (hb : Below w.heap.size w w') : E.Row w' B T v m := h.kept fun g hg => hb.block g (h.lt hg).2
theorem Enc.Row.base {E : Enc α} {w : World} {B B' : Nat} {T : TypeId} {v : Value} {m : List α} (h : E.Row w B T v m) (hB : B' ≤ B) : E.Row w B' T v m := by
  refine ⟨h.1, ?_⟩
  rcases h.2 with h1 | ⟨g, cap, cur, rfl, h2, h3⟩
  · exact Or.inl h1
  · exact Or.inr ⟨g, cap, cur, rfl, Nat.le_trans hB h2, h3⟩
end Go.Proofs.YtppodkkefegbkaaGreatDoor
namespace Go.Proofs.YtppodkkefegbkaaGreatDoor
open Go.RowKit Go.Lib Go.Sort
def encGs : Enc Gs where
  k := 6
  enc g := [.string g.1.1, .int .i64 g.1.2, .int .i64 g.2.1, .int .i64 g.2.2.1, .int .i64 g.2.2.2.1, .int .i64 g.2.2.2.2]
  len _ := rfl
  one g v hv := by simp at hv; rcases hv with rfl | rfl | rfl | rfl | rfl | rfl <;> rfl
def encLh : Enc Lh where
  k := 5
  enc l := [.string l.1.1, .string l.1.2.1, .int .i64 l.1.2.2.1, .int .i64 l.1.2.2.2, .int .i64 l.2]
  len _ := rfl
  one l v hv := by simp at hv; rcases hv with rfl | rfl | rfl | rfl | rfl <;> rfl
def encLn : Enc Ln where
  k := 5
  enc l := [.string l.1.1, .int .i64 l.1.2.1, .int .i64 l.1.2.2, .string l.2.1, .int .i64 l.2.2]
  len _ := rfl
  one l v hv := by simp at hv; rcases hv with rfl | rfl | rfl | rfl | rfl <;> rfl
def RefB (w : World) (B q : Nat) (b : Bk) : Prop := ∃ vG vL vS, w.heap[q]? = some (.cells #[vG, vL, vS] 78 (0, 0)) ∧ encGs.Row w B 120 vG b.1 ∧ encLh.Row w B 131 vL b.2.1 ∧ encLn.Row w 0 48 vS b.2.2 ∧ B ≤ q
theorem RefB.below {w w' : World} {B q : Nat} {b : Bk} (h : RefB w B q b) (hb : Below w.heap.size w w') : RefB w' B q b := by
  obtain ⟨vG, vL, vS, h1, h2, h3, h4, h5⟩ := h
  exact ⟨vG, vL, vS, (hb.block q (Array.getElem?_eq_some_iff.1 h1).1).trans h1, h2.below hb, h3.below hb, h4.below hb, h5⟩
theorem findG_any (w : World) (B q : Nat) (b : Bk) (c : ByteArray) (h : RefB w B q b) (h200 : b.1.length ≤ 1000) :
    Calls Tryz.prog 61 #[.pointer (some ⟨q, 0, none⟩), .string c] w fun e w' => e = .returned (.int .i64 (findI nameG b.1 c)) ∧ w' = w := by
  obtain ⟨vG, vL, vS, hblk, hG, hL, hS, hq⟩ := h
  have hv : w.cell? ⟨q, 0, none⟩ = some vG := by rw [cell_of_heap hblk]; rfl
  rcases hG.forms with ⟨rfl, hm⟩ | ⟨g, cap, rfl, -, hg, hcap, -, hrow⟩
  · rw [hm]
    clear hblk hG hL hS hm
    go_enter Tryz.func61, Tryz.ntmps61
    go_wp2
    refine wp_loop_rounds 1 ?_
    rw [rounds_succ]
    go_wp2
    go_ret
    exact ⟨rfl, rfl⟩
  · generalize hlm : b.1 = m at *
    clear hblk hG hL hS hlm
    generalize hln : m.length = ln at *
    have HN : Hid (ln = m.length) := hln.symm
    clear hln hcap
    have HR : Hid (∀ i x k, m[i]? = some x → k < encGs.k → w.cell? ⟨g, i * encGs.k + k, none⟩ = (encGs.enc x)[k]?) := hrow
    clear hrow
    go_enter Tryz.func61, Tryz.ntmps61
    go_wp2
    go_loopw [5] (fun i wr => ∃ k : Nat, k ≤ ln ∧ i = .int .i64 k ∧ wr = w ∧ ∀ x ∈ m.take k, x.1.1 ≠ c) (fun i _ => ln - (RowKit.intOf i).toNat)
    case atStart => exact ⟨0, Nat.zero_le _, rfl, rfl, by simp⟩
    case round =>
      obtain ⟨k, hk, rfl, rfl, hno⟩ := hrel
      have HNo : Hid (∀ x ∈ m.take k, x.1.1 ≠ c) := hno
      clear hno
      by_cases hlt : k < ln
      · have hkm : k < m.length := by rw [← HN.out]; exact hlt
        obtain ⟨x, hx⟩ : ∃ x, m[k]? = some x := ⟨_, List.getElem?_eq_getElem hkm⟩
        have HX : Hid (m[k]? = some x) := hx
        have c0 : wr.cell? ⟨g, k * 6, none⟩ = some (.string x.1.1) := (HR.out k x 0 hx (by decide)).trans rfl
        clear hx hkm
        generalize hy : x.1.1 = y at *
        have HY : Hid (x.1.1 = y) := hy
        clear hy
        have e3 := same_eq y c
        by_cases hc : y = c
        · rw [decide_eq_true hc] at e3
          go_wp2
          go_ret
          exact ⟨by rw [findI_at (f := nameG) HX.out (HY.out.trans hc) HNo.out]; rfl, by first | rfl | trivial⟩
        · rw [decide_eq_false hc] at e3
          have HK : Hid (x.1.1 ≠ c) := fun e => hc (HY.out.symm.trans e)
          clear hc
          go_wp2
          go_roundw
          case rel => exact ⟨k + 1, by omega, by go_num, by first | rfl | trivial, takeI_next HX.out HNo.out HK.out⟩
          case measure => simp [RowKit.intOf]; omega
      · have e : m.take k = m := List.take_of_length_le (by rw [← HN.out]; omega)
        have HE : Hid (∀ x ∈ m, x.1.1 ≠ c) := fun x hx => HNo.out x (by rw [e]; exact hx)
        clear e
        go_wp2
        go_ret
        exact ⟨by rw [findI_none (f := nameG) HE.out]; rfl, by first | rfl | trivial⟩
theorem findL_any (w : World) (B q : Nat) (b : Bk) (c : ByteArray) (h : RefB w B q b) (h200 : b.2.1.length ≤ 1000) :
    Calls Tryz.prog 51 #[.pointer (some ⟨q, 0, none⟩), .string c] w fun e w' => e = .returned (.int .i64 (findI nameL b.2.1 c)) ∧ w' = w := by
  obtain ⟨vG, vL, vS, hblk, hG, hL, hS, hq⟩ := h
  have hv : w.cell? ⟨q, 1, none⟩ = some vL := by rw [cell_of_heap hblk]; rfl
  rcases hL.forms with ⟨rfl, hm⟩ | ⟨g, cap, rfl, -, hg, hcap, -, hrow⟩
  · rw [hm]
    clear hblk hG hL hS hm
    go_enter Tryz.func51, Tryz.ntmps51
    go_wp2
    refine wp_loop_rounds 1 ?_
    rw [rounds_succ]
    go_wp2
    go_ret
    exact ⟨rfl, rfl⟩
  · generalize hlm : b.2.1 = m at *
    clear hblk hG hL hS hlm
    generalize hln : m.length = ln at *
    have HN : Hid (ln = m.length) := hln.symm
    clear hln hcap
    have HR : Hid (∀ i x k, m[i]? = some x → k < encLh.k → w.cell? ⟨g, i * encLh.k + k, none⟩ = (encLh.enc x)[k]?) := hrow
    clear hrow
    go_enter Tryz.func51, Tryz.ntmps51
    go_wp2
    go_loopw [5] (fun i wr => ∃ k : Nat, k ≤ ln ∧ i = .int .i64 k ∧ wr = w ∧ ∀ x ∈ m.take k, x.1.1 ≠ c) (fun i _ => ln - (RowKit.intOf i).toNat)
    case atStart => exact ⟨0, Nat.zero_le _, rfl, rfl, by simp⟩
    case round =>
      obtain ⟨k, hk, rfl, rfl, hno⟩ := hrel
      have HNo : Hid (∀ x ∈ m.take k, x.1.1 ≠ c) := hno
      clear hno
      by_cases hlt : k < ln
      · have hkm : k < m.length := by rw [← HN.out]; exact hlt
        obtain ⟨x, hx⟩ : ∃ x, m[k]? = some x := ⟨_, List.getElem?_eq_getElem hkm⟩
        have HX : Hid (m[k]? = some x) := hx
        have c0 : wr.cell? ⟨g, k * 5, none⟩ = some (.string x.1.1) := (HR.out k x 0 hx (by decide)).trans rfl
        clear hx hkm
        generalize hy : x.1.1 = y at *
        have HY : Hid (x.1.1 = y) := hy
        clear hy
        have e3 := same_eq y c
        by_cases hc : y = c
        · rw [decide_eq_true hc] at e3
          go_wp2
          go_ret
          exact ⟨by rw [findI_at (f := nameL) HX.out (HY.out.trans hc) HNo.out]; rfl, by first | rfl | trivial⟩
        · rw [decide_eq_false hc] at e3
          have HK : Hid (x.1.1 ≠ c) := fun e => hc (HY.out.symm.trans e)
          clear hc
          go_wp2
          go_roundw
          case rel => exact ⟨k + 1, by omega, by go_num, by first | rfl | trivial, takeI_next HX.out HNo.out HK.out⟩
          case measure => simp [RowKit.intOf]; omega
      · have e : m.take k = m := List.take_of_length_le (by rw [← HN.out]; omega)
        have HE : Hid (∀ x ∈ m, x.1.1 ≠ c) := fun x hx => HNo.out x (by rw [e]; exact hx)
        clear e
        go_wp2
        go_ret
        exact ⟨by rw [findI_none (f := nameL) HE.out]; rfl, by first | rfl | trivial⟩
end Go.Proofs.YtppodkkefegbkaaGreatDoor
namespace Go.Proofs.YtppodkkefegbkaaGreatDoor
open Go.RowKit Go.Lib Go.Sort
variable {α : Type}
theorem Enc.Row.shape {E : Enc α} {w : World} {B : Nat} {T : TypeId} {v : Value} {m : List α} (h : E.Row w B T v m) : ∃ a c, v = .slice a m.length c := by
  rcases h.forms with ⟨rfl, rfl⟩ | ⟨g, cap, rfl, _⟩
  · exact ⟨none, 0, rfl⟩
  · exact ⟨_, _, rfl⟩
theorem Enc.Row.grown {E : Enc α} {w w' : World} {B : Nat} {T : TypeId} {v : Value} {m : List α} {r : Option Nat} (h : E.Row w B T v m) (hg : w.grownBy w' r) (hne : ∀ k, v.ownBlock = some k → some k ≠ r) : E.Row w' B T v m :=
  h.kept fun g hgb => hg.block g (h.lt hgb).2 (hne g hgb)
theorem Enc.Row.news {E : Enc α} {w : World} {B : Nat} {T : TypeId} {g cap : Nat} {m : List α} (h : E.Row w B T (.slice (some ⟨g, 0, none⟩) m.length cap) m) (a n o : Nat) (ha : a + n ≤ m.length) (ho : n = 0 ∨ o = a * E.k) :
    ∀ j u, (E.flat ((m.drop a).take n))[j]? = some u → w.cell? ((⟨g, o, none⟩ : Addr).add j) = some u := fun j u hu => by
  have hl : (E.flat ((m.drop a).take n)).length = n * E.k := by rw [E.flat_len, List.length_take, List.length_drop]; congr 1; omega
  have hj : j < n * E.k := by rw [← hl]; exact (List.getElem?_eq_some_iff.1 hu).1
  have hn : n ≠ 0 := fun e => by subst e; simp at hj
  have ho' : o = a * E.k := ho.resolve_left hn
  have hadd : (⟨g, o, none⟩ : Addr).add j = ⟨g, o + j, none⟩ := by unfold Addr.add; split <;> simp_all
  have hlt : a * E.k + j < m.length * E.k := by
    have : (a + n) * E.k ≤ m.length * E.k := Nat.mul_le_mul_right _ ha
    rw [Nat.add_mul] at this
    omega
  rw [hadd, ho', World.ownsRow.cellAt h (a * E.k + j) hlt]
  have e1 : E.flat ((m.drop a).take n) = ((E.flat m).drop (a * E.k)).take (n * E.k) := by
    rw [E.flat_drop m a (by omega), E.flat_take _ n (by rw [List.length_drop]; omega)]
  rw [e1, List.getElem?_take, if_pos hj, List.getElem?_drop] at hu
  exact hu
theorem Enc.news_len (E : Enc α) (m : List α) (a n : Nat) (ha : a + n ≤ m.length) : (E.flat ((m.drop a).take n)).length = n * E.k := by
  rw [E.flat_len, List.length_take, List.length_drop]; congr 1; omega
theorem Enc.Row.apart {E : Enc α} {w : World} {B q : Nat} {T T' : TypeId} {v : Value} {m : List α} {cs : Array Value} {fr : Nat × Nat} (h : E.Row w B T v m) (hq : w.heap[q]? = some (.cells cs T' fr)) (hT : T ≠ T') : ∀ g, v.ownBlock = some g → g ≠ q := fun g hg e => by
  subst e
  rcases h.2 with ⟨h1, _⟩ | ⟨g', cap, cur, hv, _, hg', _⟩
  · rw [h1] at hg; cases hg
  · rw [hv] at hg
    have e : g' = g := by simpa [Value.ownBlock] using hg
    subst e
    rw [hq] at hg'
    injection hg' with hg'
    injection hg' with _ h2 _
    exact hT h2.symm
theorem Enc.Row.setOther {E : Enc α} {w : World} {B q i : Nat} {T : TypeId} {v : Value} {m : List α} (h : E.Row w B T v m) (hq : ∀ g, v.ownBlock = some g → g ≠ q) (x : Value) : E.Row (w.setCell ⟨q, i, none⟩ x) B T v m :=
  h.kept fun g hg => Below.heap_setCell w ⟨q, i, none⟩ x g (hq g hg)
theorem RefB.setG {w : World} {B q : Nat} {b : Bk} {vG vL vS v : Value} {m : List Gs} (hb : w.heap[q]? = some (.cells #[vG, vL, vS] 78 (0, 0))) (h : encGs.Row w B 120 v m) (hL : encLh.Row w B 131 vL b.2.1) (hS : encLn.Row w 0 48 vS b.2.2) (hq : B ≤ q) : RefB (w.setCell ⟨q, 0, none⟩ v) B q (m, b.2.1, b.2.2) :=
  ⟨v, vL, vS, set_cell hb 0 v rfl, h.setOther (h.apart hb (by decide)) _, hL.setOther (hL.apart hb (by decide)) _, hS.setOther (hS.apart hb (by decide)) _, hq⟩
theorem RefB.setL {w : World} {B q : Nat} {b : Bk} {vG vL vS v : Value} {m : List Lh} (hb : w.heap[q]? = some (.cells #[vG, vL, vS] 78 (0, 0))) (h : encLh.Row w B 131 v m) (hG : encGs.Row w B 120 vG b.1) (hS : encLn.Row w 0 48 vS b.2.2) (hq : B ≤ q) : RefB (w.setCell ⟨q, 1, none⟩ v) B q (b.1, m, b.2.2) :=
  ⟨vG, v, vS, set_cell hb 1 v rfl, hG.setOther (hG.apart hb (by decide)) _, h.setOther (h.apart hb (by decide)) _, hS.setOther (hS.apart hb (by decide)) _, hq⟩
end Go.Proofs.YtppodkkefegbkaaGreatDoor
namespace Go.Proofs.YtppodkkefegbkaaGreatDoor
open Go.Lib Go.Sort
end Go.Proofs.YtppodkkefegbkaaGreatDoor
