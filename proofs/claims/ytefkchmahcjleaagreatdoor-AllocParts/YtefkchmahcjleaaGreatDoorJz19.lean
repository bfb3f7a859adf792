/-
 Rows of things of one size: what is appended out of one; rows that stay where another grows.
-/
import Derived.Test.YtefkchmahcjleaaGreatDoorJz14
import Derived.Test.YtefkchmahcjleaaGreatDoorJz17
import Derived.Test.YtefkchmahcjleaaGreatDoorJz13
import Derived.Test.YtefkchmahcjleaaGreatDoorJz18
import Derived.ProofKit
import Derived.OpenShut
import Derived.Stop.Joined
import Derived.Lib.SmallJoins
import Derived.Deep.Slices
set_option maxRecDepth 100000
set_option maxHeartbeats 16000000
namespace Go.Proofs.YtefkchmahcjleaaGreatDoor
open Go.RowKit Go.Lib Go.Sort
variable {α : Type}
theorem Enc.Row.shape {E : Enc α} {w : World} {B : Nat} {T : TypeId} {v : Value} {m : List α} (h : E.Row w B T v m) : ∃ a c, v = .slice a m.length c := by
 rcases h.forms with ⟨rfl, rfl⟩ | ⟨g, cap, rfl, _⟩
 ·exact ⟨none, 0, rfl⟩
 ·exact ⟨_, _, rfl⟩
theorem Enc.Row.grown {E : Enc α} {w w' : World} {B : Nat} {T : TypeId} {v : Value} {m : List α} {r : Option Nat} (h : E.Row w B T v m) (hg : w.grownBy w' r) (hne : ∀ k, v.ownBlock = some k → some k ≠ r) : E.Row w' B T v m :=
 h.kept fun g hgb => hg.block g (h.lt hgb).2 (hne g hgb)
theorem Enc.Row.news {E : Enc α} {w : World} {B : Nat} {T : TypeId} {g cap : Nat} {m : List α} (h : E.Row w B T (.slice (some ⟨g, 0, none⟩) m.length cap) m) (a n o : Nat) (ha : a + n ≤ m.length) (ho : n = 0 ∨ o = a * E.k) :
  ∀ j u, (E.flat ((m.drop a).take n))[j]? = some u → w.cell? ((⟨g, o, none⟩ : Addr).add j) = some u := fun j u hu => by
 have hl : (E.flat ((m.drop a).take n)).length = n * E.k := by rw [E.flat_len, List.length_take, List.length_drop]; congr 1; omega
 have hj : j < n * E.k := by rw [← hl]; exact (List.getElem?_eq_some_iff.1 hu).1
 have hn : n ≠ 0 := fun e => by subst e; simp at hj
 have ho' : o = a * E.k := ho.resolve_left hn
 have hadd : (⟨g, o, none⟩ : Addr).add j = ⟨g, o + j, none⟩ := by unfold Addr.add; split <;> simp_all
 have hlt : a * E.k + j < m.length * E.k := by
  have : (a + n) * E.k ≤ m.length * E.k := Nat.mul_le_mul_right _ ha
  rw [Nat.add_mul] at this
  omega
 rw [hadd, ho', World.ownsRow.cellAt h (a * E.k + j) hlt]
 have e1 : E.flat ((m.drop a).take n) = ((E.flat m).drop (a * E.k)).take (n * E.k) := by
  rw [E.flat_drop m a (by omega), E.flat_take _ n (by rw [List.length_drop]; omega)]
 rw [e1, List.getElem?_take, if_pos hj, List.getElem?_drop] at hu
 exact hu
theorem Enc.news_len (E : Enc α) (m : List α) (a n : Nat) (ha : a + n ≤ m.length) : (E.flat ((m.drop a).take n)).length = n * E.k := by
 rw [E.flat_len, List.length_take, List.length_drop]; congr 1; omega
theorem Enc.Row.apart {E : Enc α} {w : World} {B q : Nat} {T T' : TypeId} {v : Value} {m : List α} {cs : Array Value} {fr : Nat × Nat} (h : E.Row w B T v m) (hq : w.heap[q]? = some (.cells cs T' fr)) (hT : T ≠ T') : ∀ g, v.ownBlock = some g → g ≠ q := fun g hg e => by
 subst e
 rcases h.2 with ⟨h1, _⟩ | ⟨g', cap, cur, hv, _, hg', _⟩
 ·rw [h1] at hg; cases hg
 ·rw [hv] at hg
  have e : g' = g := by simpa [Value.ownBlock] using hg
  subst e
  rw [hq] at hg'
  injection hg' with hg'
  injection hg' with _ h2 _
  exact hT h2.symm
theorem Enc.Row.setOther {E : Enc α} {w : World} {B q i : Nat} {T : TypeId} {v : Value} {m : List α} (h : E.Row w B T v m) (hq : ∀ g, v.ownBlock = some g → g ≠ q) (x : Value) : E.Row (w.setCell ⟨q, i, none⟩ x) B T v m :=
 h.kept fun g hg => Below.heap_setCell w ⟨q, i, none⟩ x g (hq g hg)
theorem RefB.setG {w : World} {B q : Nat} {b : Bk} {vG vL vS v : Value} {m : List Gs} (hb : w.heap[q]? = some (.cells #[vG, vL, vS] 68 (0, 0))) (h : encGs.Row w B 131 v m) (hL : encLh.Row w B 112 vL b.2.1) (hS : encLn.Row w 0 97 vS b.2.2) (hq : B ≤ q) : RefB (w.setCell ⟨q, 0, none⟩ v) B q (m, b.2.1, b.2.2) :=
 ⟨v, vL, vS, set_cell hb 0 v rfl, h.setOther (h.apart hb (by decide)) _, hL.setOther (hL.apart hb (by decide)) _, hS.setOther (hS.apart hb (by decide)) _, hq⟩
theorem RefB.setL {w : World} {B q : Nat} {b : Bk} {vG vL vS v : Value} {m : List Lh} (hb : w.heap[q]? = some (.cells #[vG, vL, vS] 68 (0, 0))) (h : encLh.Row w B 112 v m) (hG : encGs.Row w B 131 vG b.1) (hS : encLn.Row w 0 97 vS b.2.2) (hq : B ≤ q) : RefB (w.setCell ⟨q, 1, none⟩ v) B q (b.1, m, b.2.2) :=
 ⟨vG, v, vS, set_cell hb 1 v rfl, hG.setOther (hG.apart hb (by decide)) _, h.setOther (h.apart hb (by decide)) _, hS.setOther (hS.apart hb (by decide)) _, hq⟩
end Go.Proofs.YtefkchmahcjleaaGreatDoor
namespace Go.Proofs.YtefkchmahcjleaaGreatDoor
open Go.Lib Go.Sort
theorem hasL_cons (m : List Ln) (c : ByteArray) (x : Lh) (l : List Lh) : hasL m c (x :: l) = (if x.1.2.1 = c then ofL m x.1.1 else 0) + hasL m c l := by unfold hasL; simp
theorem hasL_none {m : List Ln} {c : ByteArray} : ∀ {l : List Lh}, (∀ x ∈ l, x.1.2.1 ≠ c) → hasL m c l = 0
 | [], _ => rfl
 | x :: l, h => by
  rw [hasL_cons, if_neg (h x (List.mem_cons_self ..)), hasL_none fun y hy => h y (List.mem_cons_of_mem _ hy)]; rfl
theorem hasL_map {m : List Ln} {c : ByteArray} : ∀ {l l' : List Lh}, l.map (·.1) = l'.map (·.1) → hasL m c l = hasL m c l'
 | [], [], _ => rfl
 | [], _ :: _, h => by simp at h
 | _ :: _, [], h => by simp at h
 | x :: l, y :: l', h => by
  simp only [List.map_cons, List.cons.injEq] at h
  rw [hasL_cons, hasL_cons, h.1, hasL_map h.2]
theorem hasL_ins (m : List Ln) (c : ByteArray) : ∀ (l : List Lh) (x : Lh), hasL m c (insC nameL l x) = hasL m c l + (if x.1.2.1 = c then ofL m x.1.1 else 0)
 | [], x => by rw [insC_nil, hasL_cons, hasL_nil]; omega
 | y :: l, x => by
  rw [insC_cons]
  split
  ·rw [hasL_cons, hasL_cons, hasL_ins m c l x]; omega
  ·rw [hasL_cons m c x]; omega
theorem hasL_turn {m m' : List Ln} {c id : ByteArray} {d : Int} (ho : ∀ i, i ≠ id → ofL m' i = ofL m i) (hd : ofL m' id = ofL m id + d) : ∀ {l : List Lh} {k : Nat} {x : Lh}, l.Pairwise (fun a b => zLt (nameL a) (nameL b) = true) → l[k]? = some x → nameL x = id → hasL m' c l = hasL m c l + (if x.1.2.1 = c then d else 0)
 | [], k, x, _, h, _ => by simp at h
 | y :: l, 0, x, hs, h, hx => by
  obtain rfl : y = x := by simpa using h
  have hi : y.1.1 = id := hx
  have hrest : hasL m' c l = hasL m c l := by
   have key : ∀ l' : List Lh, (∀ z ∈ l', z.1.1 ≠ id) → hasL m' c l' = hasL m c l' := by
    intro l'
    induction l' with
    | nil => intro _; rfl
    | cons z l' ih =>
     intro hz
     rw [hasL_cons, hasL_cons, ho _ (hz z (List.mem_cons_self ..)), ih fun a ha => hz a (List.mem_cons_of_mem _ ha)]
   refine key l fun z hz e => ?_
   have := (List.pairwise_cons.1 hs).1 z hz
   have e9 : nameL y = nameL z := hx.trans e.symm
   rw [e9, zLt_irrefl] at this
   cases this
  rw [hasL_cons, hasL_cons, hrest, hi, hd]
  split <;> omega
 | y :: l, k + 1, x, hs, h, hx => by
  have h' : l[k]? = some x := by simpa using h
  have ih := hasL_turn (c := c) ho hd (List.pairwise_cons.1 hs).2 h' hx
  have hy : y.1.1 ≠ id := fun e => by
   have := (List.pairwise_cons.1 hs).1 x (List.mem_of_getElem? h')
   have e9 : nameL y = nameL x := e.trans hx.symm
   rw [e9, zLt_irrefl] at this
   cases this
  rw [hasL_cons, hasL_cons, ho _ hy, ih]; omega
def turnE (e : En) : Int := match kd e.1 with
 | .tow => e.2.2.2.2.2
 | .frm => -e.2.2.2.2.2
 | _ => 0
theorem stkL_turn {e : En} {m : List Ln} (h : Wf m) (h0 : stkE e m = 0) : ofL (stkL e m) e.2.2.1.1 = ofL m e.2.2.1.1 + turnE e := by
 unfold stkL turnE
 unfold stkE at h0
 cases hd : kd e.1 with
 | tow =>
  rw [hd] at h0
  simp only at h0 ⊢
  unfold putL
  rw [if_pos h0, withL_ofL h.sorted, if_pos rfl]; omega
 | frm =>
  rw [hd] at h0
  simp only at h0 ⊢
  unfold takeL
  rw [if_pos h0, withL_ofL h.sorted, if_pos rfl]; omega
 | move =>
  rw [hd] at h0
  simp only at h0 ⊢
  have hxy := (moveE_zero h0).2.2.1
  unfold moveL
  rw [if_pos h0, withL_ofL (withL_sorted h.sorted _ _), if_pos rfl, withL_ofL h.sorted, if_pos rfl, withL_atL, if_neg (fun e9 => hxy (congrArg Prod.fst e9).symm)]; omega
 | _ => simp
theorem addSu_turn {e : En} (s : Su) (he : kd e.1 ≠ .goods ∧ kd e.1 ≠ .lot) : (addSu e.1 s e.2.2.2.2.2).1 - (addSu e.1 s e.2.2.2.2.2).2.1 + (addSu e.1 s e.2.2.2.2.2).2.2.1 - (addSu e.1 s e.2.2.2.2.2).2.2.2 = s.1 - s.2.1 + s.2.2.1 - s.2.2.2 + turnE e := by
 unfold turnE
 rcases kind_cases e.1 with h | h | (h | h) | (h | h) | h | (h | h) | h
 ·exact absurd (by rw [h]; rfl) he.1
 ·exact absurd (by rw [h]; rfl) he.2
 ·rw [h]; show s.1 + _ - s.2.1 + s.2.2.1 - s.2.2.2 = _ + e.2.2.2.2.2; omega
 ·rw [h]; show s.1 - s.2.1 + (s.2.2.1 + _) - s.2.2.2 = _ + e.2.2.2.2.2; omega
 ·rw [h]; show s.1 - (s.2.1 + _) + s.2.2.1 - s.2.2.2 = _ + -e.2.2.2.2.2; omega
 ·rw [h]; show s.1 - s.2.1 + s.2.2.1 - (s.2.2.2 + _) = _ + -e.2.2.2.2.2; omega
 ·rw [h]; show s.1 - s.2.1 + s.2.2.1 - s.2.2.2 = _ + 0; omega
 ·rw [h]; show s.1 - s.2.1 + s.2.2.1 - s.2.2.2 = _ + 0; omega
 ·rw [h]; show s.1 - s.2.1 + s.2.2.1 - s.2.2.2 = _ + 0; omega
 ·have e9 : addSu e.1 s e.2.2.2.2.2 = s := by unfold addSu; rw [if_neg h.in_, if_neg h.more, if_neg h.out, if_neg h.less]
  rw [e9, h.kd]; simp
theorem stkL_lots {e : En} {m : List Ln} {l : Ln} (h : l ∈ stkL e m) : l.2.1 = e.2.2.1.1 ∨ ∃ y ∈ m, y.2.1 = l.2.1 := by
 have key : ∀ (m' : List Ln) (x : Pl) (n : Int), l ∈ withL m' (x, e.2.2.1.1) n → l.2.1 = e.2.2.1.1 ∨ l ∈ m' := fun m' x n h => by
  rcases withL_mem h with ⟨h, _⟩ | h
  ·exact Or.inl (by rw [h])
  ·exact Or.inr h
 unfold stkL at h
 cases hd : kd e.1 with
 | tow =>
  rw [hd] at h
  simp only at h
  unfold putL at h
  split at h
  ·rcases key _ _ _ h with h | h
   ·exact Or.inl h
   ·exact Or.inr ⟨l, h, rfl⟩
  ·exact Or.inr ⟨l, h, rfl⟩
 | frm =>
  rw [hd] at h
  simp only at h
  unfold takeL at h
  split at h
  ·rcases key _ _ _ h with h | h
   ·exact Or.inl h
   ·exact Or.inr ⟨l, h, rfl⟩
  ·exact Or.inr ⟨l, h, rfl⟩
 | move =>
  rw [hd] at h
  simp only at h
  unfold moveL at h
  split at h
  ·rcases key _ _ _ h with h | h
   ·exact Or.inl h
   ·rcases key _ _ _ h with h | h
    ·exact Or.inl h
    ·exact Or.inr ⟨l, h, rfl⟩
  ·exact Or.inr ⟨l, h, rfl⟩
 | _ => rw [hd] at h; exact Or.inr ⟨l, h, rfl⟩
structure Pac (b : Bk) : Prop where
 sums : ∀ g ∈ b.1, hasL b.2.2 (nameG g) b.2.1 = g.2.1 - g.2.2.1 + g.2.2.2.1 - g.2.2.2.2
 lines : ∀ y ∈ b.2.2, ∃ l ∈ b.2.1, nameL l = y.2.1
theorem Pac.nil : Pac ([], [], []) := ⟨by simp, by simp⟩
theorem ofL_none {m : List Ln} {c : ByteArray} : (∀ y ∈ m, y.2.1 ≠ c) → ofL m c = 0 := by
 induction m with
 | nil => intro _; rfl
 | cons y m ih =>
  intro h
  rw [ofL_cons, if_neg (h y (List.mem_cons_self ..)), ih fun z hz => h z (List.mem_cons_of_mem _ hz)]; rfl
theorem Pac.goods {b : Bk} (hb : BkOk b) (h : Pac b) {g : Gd} (h0 : goodsE b g = 0) : Pac (goodsB b g) := by
 have h1 : ¬ 0 ≤ findI nameG b.1 g.1 := fun e => by unfold goodsE at h0; rw [if_pos e] at h0; omega
 refine ⟨fun x hx => ?_, h.lines⟩
 rcases (insC_mem nameG b.1 (g, zeroSu) x).1 hx with rfl | hx
 ·show hasL b.2.2 g.1 b.2.1 = 0 - 0 + 0 - 0
  rw [hasL_none]
  ·rfl
  ·intro l hl e
   obtain ⟨y, hy, e9⟩ := hb.wf.lots l hl
   exact findI_neg h1 y hy (e9.trans e)
 ·exact h.sums x hx
theorem Pac.lot {b : Bk} (h : Pac b) {l : Lo} (h0 : lotBE b l = 0) : Pac (lotB b l) := by
 have h1 : ¬ 0 ≤ findI nameL b.2.1 l.1 := fun e => by unfold lotBE at h0; rw [if_pos e] at h0; omega
 have hz : ofL b.2.2 l.1 = 0 := ofL_none fun y hy e => by
  obtain ⟨x, hx, e9⟩ := h.lines y hy
  exact findI_neg h1 x hx (e9.trans e)
 refine ⟨fun x hx => ?_, fun y hy => ?_⟩
 ·show hasL b.2.2 (nameG x) (insC nameL b.2.1 (l, 0)) = _
  rw [hasL_ins, hz, h.sums x hx]
  split <;> omega
 ·obtain ⟨x, hx, e9⟩ := h.lines y hy
  exact ⟨x, (insC_mem _ _ _ _).2 (Or.inr hx), e9⟩
theorem Pac.piece {b : Bk} (hb : BkOk b) (h : Pac b) {e : En} {k i : Nat} {l : Lh} {g : Gs} (hk : kd e.1 ≠ .goods ∧ kd e.1 ≠ .lot) (hl : b.2.1[k]? = some l) (hid : nameL l = e.2.2.1.1) (hg : b.1[i]? = some g) (hgn : nameG g = l.1.2.1) (h0 : pieceE b e l g = 0) : Pac (pieceB b e k l i g) := by
 have c0 : stkE e b.2.2 = 0 := by
  unfold pieceE at h0
  by_cases c0 : stkE e b.2.2 = 0
  ·exact c0
  ·rw [if_neg c0] at h0; exact absurd h0 c0
 have hm : ∀ c, hasL (stkL e b.2.2) c (b.2.1.set k (l.1, heldN e.1 l.2 e.2.2.2.2.2)) = hasL b.2.2 c b.2.1 + (if l.1.2.1 = c then turnE e else 0) := fun c => by
  rw [hasL_map (l := b.2.1.set k (l.1, heldN e.1 l.2 e.2.2.2.2.2)) (l' := b.2.1) (set_map hl rfl)]
  exact hasL_turn (fun i hi => stkL_other hb.wf.st hi) (stkL_turn hb.wf.st c0) hb.ls hl hid
 refine ⟨fun x hx => ?_, fun y hy => ?_⟩
 ·obtain ⟨j, hj⟩ := List.getElem?_of_mem hx
  show hasL (stkL e b.2.2) (nameG x) (b.2.1.set k (l.1, heldN e.1 l.2 e.2.2.2.2.2)) = _
  rw [hm]
  have hj' : (b.1.set i (g.1, addSu e.1 g.2 e.2.2.2.2.2))[j]? = some x := hj
  rw [List.getElem?_set] at hj'
  by_cases hij : i = j
  ·rw [if_pos hij, if_pos (by have := (List.getElem?_eq_some_iff.1 hg).1; omega)] at hj'
   injection hj' with hj'
   rw [← hj']
   have hs := addSu_turn g.2 hk
   have hp := h.sums g (List.mem_of_getElem? hg)
   show hasL b.2.2 (nameG g) b.2.1 + (if l.1.2.1 = nameG g then turnE e else 0) = _
   rw [if_pos hgn.symm, hp]
   simp only
   omega
  ·rw [if_neg hij] at hj'
   have hne := sorted_ne (f := nameG) hb.gs hg hj' hij
   rw [if_neg (fun e9 => hne (hgn.trans e9)), h.sums x (List.mem_of_getElem? hj')]
   omega
 ·have hmem : ∀ c, (∃ x ∈ b.2.1, nameL x = c) → ∃ x ∈ b.2.1.set k (l.1, heldN e.1 l.2 e.2.2.2.2.2), nameL x = c := fun c ⟨x, hx, e9⟩ => by
   have : c ∈ (b.2.1.set k (l.1, heldN e.1 l.2 e.2.2.2.2.2)).map nameL := by
    rw [set_map (f := nameL) (y := (l.1, heldN e.1 l.2 e.2.2.2.2.2)) hl rfl]; exact List.mem_map.2 ⟨x, hx, e9⟩
   obtain ⟨z, hz, e8⟩ := List.mem_map.1 this
   exact ⟨z, hz, e8⟩
  rcases stkL_lots (e := e) (m := b.2.2) hy with h9 | ⟨z, hz, e9⟩
  ·exact hmem _ ⟨l, List.mem_of_getElem? hl, hid.trans h9.symm⟩
  ·obtain ⟨x, hx, e8⟩ := h.lines z hz
   exact hmem _ ⟨x, hx, e8.trans e9⟩
theorem Pac.do_ {b : Bk} (hb : BkOk b) (h : Pac b) (e : En) : Pac (doB b e).1 := by
 by_cases he : entErr e = 0
 ·by_cases h1 : e.1 = kGoods
  ·rw [doB_goods he h1]
   split
   ·rename_i h0; exact h.goods hb h0
   ·exact h
  by_cases h2 : e.1 = kLot
  ·rw [doB_lot he h2]
   split
   ·rename_i h0; exact h.lot h0
   ·exact h
  rcases findI_cases nameL b.2.1 e.2.2.1.1 with ⟨h9, _⟩ | ⟨k, l, hkL, hl, hid⟩
  ·rw [doB_none he h1 h2 (by omega)]; exact h
  ·obtain ⟨g0, hg0, hg1⟩ := hb.wf.lots l (List.mem_of_getElem? hl)
   rcases findI_cases nameG b.1 l.1.2.1 with ⟨_, h8⟩ | ⟨i, g, hiG, hg, hgn⟩
   ·exact absurd hg1 (h8 g0 hg0)
   ·rw [doB_at he h1 h2 hkL hl hiG hg]
    split
    ·rename_i h0
     exact h.piece hb (piece_kind h1 h2) hl hid hg hgn h0
    ·exact h
 ·rw [doB_err he]; exact h
end Go.Proofs.YtefkchmahcjleaaGreatDoor
namespace Go.Proofs.YtefkchmahcjleaaGreatDoor
open Go.Lib Go.Sort
variable {α : Type}
end Go.Proofs.YtefkchmahcjleaaGreatDoor
namespace Go.Proofs.YtefkchmahcjleaaGreatDoor
open Go.RowKit Go.Lib Go.Sort
def bkTo (l : List En) : Nat → Bk
 | 0 => ([], [], [])
 | k + 1 => match l[k]? with
  | some e => (doB (bkTo l k) e).1
  | none => bkTo l k
theorem bkTo_succ {l : List En} {k : Nat} {e : En} (h : l[k]? = some e) : bkTo l (k + 1) = (doB (bkTo l k) e).1 := by
 show (match l[k]? with | some e => (doB (bkTo l k) e).1 | none => bkTo l k) = _
 rw [h]
theorem bkTo_ok (l : List En) : ∀ k, BkOk (bkTo l k)
 | 0 => BkOk.nil
 | k + 1 => by
  cases h : l[k]? with
  | none =>
   have e : bkTo l (k + 1) = bkTo l k := by
    show (match l[k]? with | some e => (doB (bkTo l k) e).1 | none => bkTo l k) = _
    rw [h]
   rw [e]; exact bkTo_ok l k
  | some e => rw [bkTo_succ h]; exact (bkTo_ok l k).do_ e
theorem bkTo_pac (l : List En) : ∀ k, Pac (bkTo l k)
 | 0 => Pac.nil
 | k + 1 => by
  cases h : l[k]? with
  | none =>
   have e : bkTo l (k + 1) = bkTo l k := by
    show (match l[k]? with | some e => (doB (bkTo l k) e).1 | none => bkTo l k) = _
    rw [h]
   rw [e]; exact bkTo_pac l k
  | some e => rw [bkTo_succ h]; exact (bkTo_pac l k).do_ (bkTo_ok l k) e
theorem bkTo_lots (l : List En) : ∀ k, (bkTo l k).2.1.length ≤ k
 | 0 => Nat.le_refl _
 | k + 1 => by
  cases h : l[k]? with
  | none =>
   have e : bkTo l (k + 1) = bkTo l k := by
    show (match l[k]? with | some e => (doB (bkTo l k) e).1 | none => bkTo l k) = _
    rw [h]
   rw [e]; exact Nat.le_succ_of_le (bkTo_lots l k)
  | some e =>
   rw [bkTo_succ h]
   have ih := bkTo_lots l k
   generalize bkTo l k = b at *
   unfold doB
   repeat' split
   all_goals (try unfold goodsB) <;> (try unfold lotB) <;> (try unfold pieceB) <;> (try simp only [insC_length, List.length_set]) <;> omega
end Go.Proofs.YtefkchmahcjleaaGreatDoor
namespace Go.Proofs.YtefkchmahcjleaaGreatDoor
open Go.Lib Go.Sort
section
variable {α : Type} {f : α → ByteArray}
theorem name_uniq : ∀ {m : List α}, m.Pairwise (fun a b => zLt (f a) (f b) = true) → ∀ {x y : α}, x ∈ m → y ∈ m → f x = f y → x = y
 | [], _, x, y, hx, _, _ => by simp at hx
 | a :: m, h, x, y, hx, hy, e => by
  obtain ⟨h1, h2⟩ := List.pairwise_cons.1 h
  rcases List.mem_cons.1 hx with hx | hx
  ·rcases List.mem_cons.1 hy with hy | hy
   ·exact hx.trans hy.symm
   ·have := h1 y hy
    rw [← hx, e, zLt_irrefl] at this
    cases this
  ·rcases List.mem_cons.1 hy with hy | hy
   ·have := h1 x hx
    rw [← hy, e, zLt_irrefl] at this
    cases this
   ·exact name_uniq h2 hx hy e
theorem ord_perm_eq : ∀ {m m' : List α}, m.Pairwise (fun a b => zLt (f a) (f b) = true) → m'.Pairwise (fun a b => zLt (f a) (f b) = true) → m.Perm m' → m = m'
 | [], m', _, _, hp => (List.nil_perm.1 hp).symm
 | a :: m, [], _, _, hp => by have := hp.length_eq; simp at this
 | a :: m, b :: m', h, h', hp => by
  obtain ⟨h1, h2⟩ := List.pairwise_cons.1 h
  obtain ⟨h3, h4⟩ := List.pairwise_cons.1 h'
  have e : a = b := by
   rcases List.mem_cons.1 (hp.mem_iff.1 (List.mem_cons_self ..)) with e | e
   ·exact e
   ·rcases List.mem_cons.1 (hp.mem_iff.2 (List.mem_cons_self ..)) with e' | e'
    ·exact e'.symm
    ·have := zLt_trans (h3 a e) (h1 b e')
     rw [zLt_irrefl] at this
     cases this
  subst e
  rw [ord_perm_eq h2 h4 (List.Perm.cons_inv hp)]
theorem perm_of_sub : ∀ {l l' : List α}, l.Nodup → (∀ x ∈ l, x ∈ l') → l.length = l'.length → l.Perm l'
 | [], l', _, _, hl => by
  have : l' = [] := List.eq_nil_of_length_eq_zero (by simpa using hl.symm)
  rw [this]
 | a :: l, l', hn, hs, hl => by
  obtain ⟨h1, h2⟩ := List.nodup_cons.1 hn
  obtain ⟨s, t, rfl⟩ := List.append_of_mem (hs a (List.mem_cons_self ..))
  have hp : (s ++ a :: t).Perm (a :: (s ++ t)) := List.perm_middle
  refine List.Perm.trans (List.Perm.cons a (perm_of_sub h2 (fun x hx => ?_) ?_)) hp.symm
  ·rcases List.mem_cons.1 (hp.mem_iff.1 (hs x (List.mem_cons_of_mem _ hx))) with e | e
   ·subst e; exact absurd hx h1
   ·exact e
  ·have := hp.length_eq
   simp at hl this ⊢
   omega
end
def gdsB (b : Bk) : List Gd := b.1.map (·.1)
def susB (b : Bk) : List (ByteArray × Su) := b.1.map fun g => (g.1.1, g.2)
def losB (b : Bk) : List Lo := b.2.1.map (·.1)
def hesB (b : Bk) : List (ByteArray × Int) := b.2.1.map fun l => (l.1.1, l.2)
theorem gs_eq : ∀ {m m' : List Gs}, m.map (·.1) = m'.map (·.1) → m.map (fun g => (g.1.1, g.2)) = m'.map (fun g => (g.1.1, g.2)) → m = m'
 | [], [], _, _ => rfl
 | [], b :: m', h, _ => by simp at h
 | a :: m, [], h, _ => by simp at h
 | a :: m, b :: m', h, h' => by
  rw [List.map_cons, List.map_cons] at h h'
  obtain ⟨e1, e2⟩ := List.cons.inj h
  obtain ⟨e3, e4⟩ := List.cons.inj h'
  rw [gs_eq e2 e4]
  have : a.2 = b.2 := (Prod.mk.inj e3).2
  obtain ⟨a1, a2⟩ := a
  obtain ⟨b1, b2⟩ := b
  simp only at e1 this
  rw [e1, this]
theorem ls_eq : ∀ {m m' : List Lh}, m.map (·.1) = m'.map (·.1) → m.map (fun g => (g.1.1, g.2)) = m'.map (fun g => (g.1.1, g.2)) → m = m'
 | [], [], _, _ => rfl
 | [], b :: m', h, _ => by simp at h
 | a :: m, [], h, _ => by simp at h
 | a :: m, b :: m', h, h' => by
  rw [List.map_cons, List.map_cons] at h h'
  obtain ⟨e1, e2⟩ := List.cons.inj h
  obtain ⟨e3, e4⟩ := List.cons.inj h'
  rw [ls_eq e2 e4]
  have : a.2 = b.2 := (Prod.mk.inj e3).2
  obtain ⟨a1, a2⟩ := a
  obtain ⟨b1, b2⟩ := b
  simp only at e1 this
  rw [e1, this]
theorem bk_same {b b' : Bk} (h : BkOk b) (h' : BkOk b') : ((((gdsB b).Perm (gdsB b') ∧ (susB b).Perm (susB b')) ∧ (losB b).Perm (losB b')) ∧ (hesB b).Perm (hesB b')) ∧ b.2.2 = b'.2.2 ↔ b = b' := by
 constructor
 ·rintro ⟨⟨⟨⟨h1, h2⟩, h3⟩, h4⟩, h5⟩
  have k1 : gdsB b = gdsB b' := ord_perm_eq (f := fun g : Gd => g.1) (List.pairwise_map.2 h.gs) (List.pairwise_map.2 h'.gs) h1
  have k2 : susB b = susB b' := ord_perm_eq (f := fun g : ByteArray × Su => g.1) (List.pairwise_map.2 h.gs) (List.pairwise_map.2 h'.gs) h2
  have k3 : losB b = losB b' := ord_perm_eq (f := fun g : Lo => g.1) (List.pairwise_map.2 h.ls) (List.pairwise_map.2 h'.ls) h3
  have k4 : hesB b = hesB b' := ord_perm_eq (f := fun g : ByteArray × Int => g.1) (List.pairwise_map.2 h.ls) (List.pairwise_map.2 h'.ls) h4
  have e1 := gs_eq k1 k2
  have e2 := ls_eq k3 k4
  obtain ⟨b1, b2, b3⟩ := b
  obtain ⟨c1, c2, c3⟩ := b'
  simp only at e1 e2 h5
  rw [e1, e2, h5]
 ·rintro rfl
  exact ⟨⟨⟨⟨List.Perm.refl _, List.Perm.refl _⟩, List.Perm.refl _⟩, List.Perm.refl _⟩, rfl⟩
end Go.Proofs.YtefkchmahcjleaaGreatDoor
namespace Go.Proofs.YtefkchmahcjleaaGreatDoor
open Go.RowKit Go.Lib Go.Sort
structure EntO (w : World) (q o : Nat) (e : En) : Prop where
 c0 : w.cell? ⟨q, o, none⟩ = some (.string e.1)
 c1 : w.cell? ⟨q, o + 1, none⟩ = some (.string e.2.1.1)
 c2 : w.cell? ⟨q, o + 2, none⟩ = some (.int .i64 e.2.1.2)
 c3 : w.cell? ⟨q, o + 3, none⟩ = some (.string e.2.2.1.1)
 c4 : w.cell? ⟨q, o + 4, none⟩ = some (.string e.2.2.1.2.1)
 c5 : w.cell? ⟨q, o + 5, none⟩ = some (.int .i64 e.2.2.1.2.2.1)
 c6 : w.cell? ⟨q, o + 6, none⟩ = some (.int .i64 e.2.2.1.2.2.2)
 c7 : w.cell? ⟨q, o + 7, none⟩ = some (.string e.2.2.2.1.1)
 c8 : w.cell? ⟨q, o + 8, none⟩ = some (.int .i64 e.2.2.2.1.2.1)
 c9 : w.cell? ⟨q, o + 9, none⟩ = some (.int .i64 e.2.2.2.1.2.2)
 c10 : w.cell? ⟨q, o + 10, none⟩ = some (.string e.2.2.2.2.1.1)
 c11 : w.cell? ⟨q, o + 11, none⟩ = some (.int .i64 e.2.2.2.2.1.2.1)
 c12 : w.cell? ⟨q, o + 12, none⟩ = some (.int .i64 e.2.2.2.2.1.2.2)
 c13 : w.cell? ⟨q, o + 13, none⟩ = some (.int .i64 e.2.2.2.2.2)
theorem EntO.of_block {w w' : World} {q o : Nat} {e : En} (h : EntO w q o e) (hb : w'.heap[q]? = w.heap[q]?) : EntO w' q o e where
 c0 := (World.cell?_of_block (a := ⟨q, o, none⟩) hb).trans h.c0
 c1 := (World.cell?_of_block (a := ⟨q, o + 1, none⟩) hb).trans h.c1
 c2 := (World.cell?_of_block (a := ⟨q, o + 2, none⟩) hb).trans h.c2
 c3 := (World.cell?_of_block (a := ⟨q, o + 3, none⟩) hb).trans h.c3
 c4 := (World.cell?_of_block (a := ⟨q, o + 4, none⟩) hb).trans h.c4
 c5 := (World.cell?_of_block (a := ⟨q, o + 5, none⟩) hb).trans h.c5
 c6 := (World.cell?_of_block (a := ⟨q, o + 6, none⟩) hb).trans h.c6
 c7 := (World.cell?_of_block (a := ⟨q, o + 7, none⟩) hb).trans h.c7
 c8 := (World.cell?_of_block (a := ⟨q, o + 8, none⟩) hb).trans h.c8
 c9 := (World.cell?_of_block (a := ⟨q, o + 9, none⟩) hb).trans h.c9
 c10 := (World.cell?_of_block (a := ⟨q, o + 10, none⟩) hb).trans h.c10
 c11 := (World.cell?_of_block (a := ⟨q, o + 11, none⟩) hb).trans h.c11
 c12 := (World.cell?_of_block (a := ⟨q, o + 12, none⟩) hb).trans h.c12
 c13 := (World.cell?_of_block (a := ⟨q, o + 13, none⟩) hb).trans h.c13
structure Ents (w : World) (q o : Nat) (l : List En) : Prop where
 lt : q < w.heap.size
 at_ : ∀ k e, l[k]? = some e → EntO w q (o + k * 14) e
theorem Ents.below {w w' : World} {B q o : Nat} {l : List En} (h : Ents w q o l) (hB : q < B) (hb : Below B w w') : Ents w' q o l :=
 ⟨Nat.lt_of_lt_of_le h.lt hb.size, fun k e hk => (h.at_ k e hk).of_block (hb.block q hB)⟩
end Go.Proofs.YtefkchmahcjleaaGreatDoor
namespace Go.Proofs.YtefkchmahcjleaaGreatDoor
open Go.Joins Go.Deep
open Go.Sort Go.Lib
open Go.ChangeMaps (open_string shut_string)
open Go.ChangeShapes Go.WideShapes Go.ChangeAt Go.WideMaps Go.WideElems Go.RowKit
def encEn (e : En) : List Value := [.string e.1, .string e.2.1.1, .int .i64 e.2.1.2, .string e.2.2.1.1, .string e.2.2.1.2.1, .int .i64 e.2.2.1.2.2.1, .int .i64 e.2.2.1.2.2.2, .string e.2.2.2.1.1, .int .i64 e.2.2.2.1.2.1, .int .i64 e.2.2.2.1.2.2, .string e.2.2.2.2.1.1, .int .i64 e.2.2.2.2.1.2.1, .int .i64 e.2.2.2.2.1.2.2, .int .i64 e.2.2.2.2.2]
theorem encEn_len (e : En) : (encEn e).length = 14 := rfl
theorem open_ent_cells {H : Type} {enc : TypeId × Value → H} {W : World} {base n : Nat} {cs : List Value} {x : DataW H × List MemPlace} {sp : Nat → Bool} {hd : Bool} (hl : cs.length = 14) (h : DataW.trod enc Tryz.prog W base sp hd n 44 cs = some x) :
  ∃ e : En, cs = encEn e ∧ SzE e := by
 match cs, hl with
 | [c0, c1, c2, c3, c4, c5, c6, c7, c8, c9, c10, c11, c12, c13], _ =>
  obtain ⟨xs, m, _, _, _, hlen, hg⟩ := DataW.trod_struct Tryz.underlying44 h
  match xs, hlen with
  | [y0, y1, y2, y3, y4, y5], _ =>
   have h0 := hg 0 _ rfl
   have h1 := hg 1 _ rfl
   have h2 := hg 2 _ rfl
   have h3 := hg 3 _ rfl
   have h4 := hg 4 _ rfl
   have h5 := hg 5 _ rfl
   simp [Tryz.cStr, Tryz.cInt, Tryz.cPla, Tryz.cGoo, Tryz.cLot] at h0 h1 h2 h3 h4 h5
   obtain ⟨k, e0, _, wk⟩ := DataW.trod_string Tryz.underlying9 h0
   obtain ⟨g, g0, g1, wg⟩ := open_gd h1
   obtain ⟨o, o0, o1, o2, o3, wo0, wo1⟩ := open_lo h2
   obtain ⟨f, f0, f1, f2, wf⟩ := open_pl h3
   obtain ⟨t, t0, t1, t2, wt⟩ := open_pl h4
   obtain ⟨n, e5, _, wn⟩ := DataW.trod_int Tryz.underlying3 h5
   simp at e0 e5
   subst e0 e5 g0 g1 o0 o1 o2 o3 f0 f1 f2 t0 t1 t2
   exact ⟨(k, g, o, f, t, n), rfl, ⟨wk, wg, wo0, wo1, wf, wt⟩⟩
theorem open_ents {H : Type} {enc : TypeId × Value → H} {W : World} {b0 : Nat} {v : Value} {dd : DataW H} {ps : List MemPlace} {sp : Nat → Bool} {hd : Bool} (hv : Value.okWide Tryz.prog W .any b0 22 v) (h : DataW.Trod enc Tryz.prog W 0 sp hd 22 v dd ps) :
  (∃ ad c, v = .slice ad 0 c) ∨ ∃ b off c l, 1 ≤ l.length ∧ l.length ≤ maxLen ∧ v = .slice (some ⟨b, off, none⟩) l.length c ∧ Ents W b off l ∧ ∀ e ∈ l, SzE e := by
 obtain ⟨a0, len, cap, rfl⟩ := okWide_slice Tryz.underlying22 hv
 obtain ⟨fuel, hf⟩ := h
 rcases open_slice Tryz.underlying22 hf with ⟨hcs, _⟩ | ⟨a, len', cap', m, n, D, Pq, hcs, _, hl, hm, hmm, _, hx⟩
 ·simp [Value.cells] at hcs
  obtain ⟨rfl, rfl, rfl⟩ := hcs
  exact Or.inl ⟨none, 0, rfl⟩
 ·simp [Value.cells] at hcs
  obtain ⟨rfl, rfl, rfl⟩ := hcs
  rcases Nat.eq_zero_or_pos len with rfl | hpos
  ·exact Or.inl ⟨_, _, rfl⟩
  ·right
   rw [Tryz.cEnt] at hx
   have hlm : len ≤ m := by rw [hmm]; split <;> omega
   obtain ⟨f, hfq⟩ := choose_lt (α := En) (n := len) (p := fun i e => W.cells? 0 (a.add (i * 14)) 14 = some (encEn e) ∧ SzE e) (fun i hi => by
    obtain ⟨cs', h1, h2⟩ := hx i (by omega)
    obtain ⟨_, hlen, _⟩ := World.cells?_some h1
    obtain ⟨e, rfl, hz⟩ := open_ent_cells hlen h2
    exact ⟨e, h1, hz⟩)
   have hcell : ∀ i c, i < len → c < 14 → W.cell? (a.add (i * 14 + c)) = (encEn (f i))[c]? := by
    intro i c hi hc
    have := (World.cells?_some (hfq i hi).1).2.2 c hc
    rw [add_add] at this
    exact this
   have hsp : a.spot = none := by
    have := World.cell?_spot (hcell 0 0 hpos (by decide))
    simpa [Addr.add] using this
   obtain ⟨b, off, spot⟩ := a
   simp only at hsp
   subst hsp
   have hsz : ((List.range len).map f).length = len := by simp
   have hget : ∀ i e, ((List.range len).map f)[i]? = some e → i < len ∧ e = f i := fun i e he => by
    have hi := (List.getElem?_eq_some_iff.1 he).1
    rw [hsz] at hi
    refine ⟨hi, ?_⟩
    rw [List.getElem?_map, List.getElem?_range hi] at he
    simpa using he.symm
   refine ⟨b, off, cap, (List.range len).map f, by rw [hsz]; exact hpos, by rw [hsz]; omega, by rw [hsz], ⟨?_, ?_⟩, ?_⟩
   ·have := hcell 0 0 hpos (by decide)
    rw [WideShapes.add_plain] at this
    exact cell_lt (this.trans rfl)
   ·intro k e he
    obtain ⟨hk, rfl⟩ := hget k e he
    have hc : ∀ c, c < 14 → W.cell? ⟨b, off + k * 14 + c, none⟩ = (encEn (f k))[c]? := fun c hc => by
     have := hcell k c hk hc
     rw [WideShapes.add_plain, ← Nat.add_assoc] at this
     exact this
    exact ⟨hc 0 (by decide), hc 1 (by decide), hc 2 (by decide), hc 3 (by decide), hc 4 (by decide), hc 5 (by decide), hc 6 (by decide), hc 7 (by decide), hc 8 (by decide), hc 9 (by decide), hc 10 (by decide), hc 11 (by decide), hc 12 (by decide), hc 13 (by decide)⟩
   ·intro e he
    obtain ⟨k, hk⟩ := List.getElem?_of_mem he
    obtain ⟨hk', rfl⟩ := hget k e hk
    exact (hfq k hk').2
end Go.Proofs.YtefkchmahcjleaaGreatDoor
